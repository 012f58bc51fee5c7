/-
  Layer 13: the contract of the tree's run.
-/
import Derived.Test.YtepnofklmdofmaaGreatDoorEvI
namespace Go.Proofs.YtepnofklmdofmaaGreatDoor
open Go.RowKit

namespace Ev
/-- One cell of a row of one's own is written. -/
theorem erow_set {w : World} {base m n g cap j : Nat} {T : TypeId} {xs : List Value} (h : w.ownsRow base T m (.slice (some ⟨g, 0, none⟩) n cap) n xs) (hj : j < xs.length) (x : Value) :
    (w.setCell ⟨g, j, none⟩ x).ownsRow base T m (.slice (some ⟨g, 0, none⟩) n cap) n (xs.set j x) := by
  obtain ⟨hl, h0 | ⟨g', cap', cur, e, hg, hh, hn, hcap, hsz, ht⟩⟩ := h
  · have := h0.2
    rw [hl, this] at hj
    omega
  · injection e with e1 e2 e3
    injection e1 with e1
    injection e1 with e1 _ _
    subst e1 e3
    refine ⟨by rw [List.length_set]; exact hl, .inr ⟨g, cap, cur.setIfInBounds j x, rfl, hg, heap_setCell_same _ _ _ _ _ _ hh, hn, hcap, by rw [Array.size_setIfInBounds]; exact hsz, ?_⟩⟩
    rw [Array.toList_setIfInBounds, List.take_set, ht]
theorem row_cell {w : World} {base m n g cap j : Nat} {T : TypeId} {xs : List Value} {x : Value} (h : w.ownsRow base T m (.slice (some ⟨g, 0, none⟩) n cap) n xs) (hj : xs[j]? = some x) : w.cell? ⟨g, j, none⟩ = some x ∧ w.frozen? ⟨g, j, none⟩ = false := by
  obtain ⟨hl, h0 | ⟨g', cap', cur, e, hg, hh, hn, hcap, hsz, ht⟩⟩ := h
  · have := h0.2
    rw [this] at hl
    have hz : xs = [] := List.length_eq_zero_iff.1 (by omega)
    rw [hz] at hj
    cases hj
  · injection e with e1 e2 e3
    injection e1 with e1
    injection e1 with e1 _ _
    subst e1 e3
    refine ⟨?_, frozen_of_row _ _ j _ _ hh⟩
    rw [cell_of_row w g j cur T (0, 0) hh]
    rw [← ht, List.getElem?_take] at hj
    split at hj
    · simpa using hj
    · cases hj
theorem own_some {w : World} {base m n : Nat} {v : Value} {T : TypeId} {xs : List Value} (h : w.ownsRow base T m v n xs) (hn : 0 < n) : ∃ g cap, v = .slice (some ⟨g, 0, none⟩) n cap := by
  rcases h.2 with ⟨_, h0⟩ | ⟨g, cap, cur, rfl, _⟩
  · omega
  · exact ⟨g, cap, rfl⟩
theorem mvg_and {off off' k : Nat → Prop} {w w' : World} (h : Gm.Mvg off off' w w') : Gm.Mvg (fun i => off i ∧ k i) (fun i => off' i ∧ k i) w w' := ⟨h.os, h.tape, h.output, h.size, fun i hi ho => h.block i hi ho.1, fun i hi ho => ⟨h.keep i hi ho.1, ho.2⟩⟩
theorem dcells_at (a b : List Dm) (m : Dm) {i : Nat} (hi : i < 7) : (dcells (a ++ [m] ++ b))[a.length * 7 + i]? = m.cells[i]? := by
  rw [dcells_app, dcells_app, List.append_assoc, List.getElem?_append_right (by rw [dcells_len]; omega), dcells_len, Nat.add_sub_cancel_left]
  have e : dcells [m] = m.cells := by unfold dcells; simp
  rw [e, List.getElem?_append_left (by simpa [Dm.cells] using hi)]
theorem dcells_set (a b : List Dm) (t : Tsk) (A : Option Addr) (c : Nat) (r0 r1 : Res) (k0 k1 : Nat) :
    (((dcells (a ++ [⟨⟨t, r0, k0⟩, A, c⟩] ++ b)).set (a.length * 7 + 4) (.int .i64 r1.val)).set (a.length * 7 + 5) (.int .i64 r1.err)).set (a.length * 7 + 6) (.int .i64 (k1 : Int)) = dcells (a ++ [⟨⟨t, r1, k1⟩, A, c⟩] ++ b) := by
  have e : ∀ m : Dm, dcells (a ++ [m] ++ b) = dcells a ++ (m.cells ++ dcells b) := fun m => by
    rw [dcells_app, dcells_app, List.append_assoc]
    congr 1
  have hs : ∀ (i : Nat) (xs : List Value) (x : Value), (dcells a ++ xs).set (a.length * 7 + i) x = dcells a ++ xs.set i x := fun i xs x => by
    rw [List.set_append_right (h := by rw [dcells_len]; omega), dcells_len, Nat.add_sub_cancel_left]
  rw [e, e, hs, hs, hs]
  rfl
def hole (t : Tsk) (A : Option Addr) (c : Nat) : Dm := ⟨⟨t, ⟨0, 0⟩, 0⟩, A, c⟩
/-- append(l, d) of a task that is told, at a step of a region that draws. -/
theorem dpush_step {ops : Array Oper} {oo : Oper} {a : Act} {U : World} {K : Act → World → Prop} {Q : Exit → Act → World → Prop} {E : Prop} {T1 : TypeId} {n b : Nat} {v : Value} {xs : List Value}
    (hrow : U.ownsRow 0 96 7 v n xs) (hgd : oo.guard = none) (s x : Operand)
    (hop : oo.op = .call { callee := .builtin .append, args := #[s, x], argTypes := #[35, 35] }) (hs : a.eval s = v) (hx : a.eval x = .slice (some ⟨b, 0, none⟩) 1 1) (m : Dm)
    (hb : U.heap[b]? = some (.cells m.cells.toArray T1 (0, 0))) (hn : n ≤ 100000)
    (h : ∀ g cap w', w'.ownsRow 0 96 7 (.slice (some ⟨g, 0, none⟩) (n + 1) cap) (n + 1) (xs ++ m.cells) → U.grownBy w' v.ownBlock → (v.ownBlock = some g ∨ g = U.heap.size) → K (a.put oo.dst (.slice (some ⟨g, 0, none⟩) (n + 1) cap)) w') :
    if Region.wanted oo (yielded ops a.tmps) = true then Oper.wp Tryz.prog oo a U K Q else E := by
  obtain ⟨i, hi, hz⟩ := Option.map_eq_some_iff.1 done_info
  simp only [Prod.mk.injEq] at hz
  obtain ⟨z1, z2, z3⟩ := hz
  refine step_append_lies _ hgd s x 35 hop 0 96 i (.agg #[.string ⟨#[]⟩, .int .i64 0, .slice none 0 0, .int .i64 0, .int .i64 0, .int .i64 0, .int .i64 0]) 7 80 Tryz.underlying35 hi z1 z2 z3 rfl (by decide) v n xs hs hrow ⟨b, 0, none⟩ 1 1 m.cells hx rfl
    (fun j u hu => World.news_of_block hb j u hu) (by unfold Dm.cells; simp [Value.oneCell']) (by decide) (by unfold maxLen; omega) (by omega) (Nat.zero_le _) U.heap.size rfl ?_
  intro g cap w' h1 h2 h3 _
  exact h g cap w' h1 h2 h3
/-- A task that is told was appended. -/
theorem Tr.push {X : Nat} {fs mk v : Value} {ds : List Dm} {w w' : World} (h : Tr X fs mk v ds w) {g cap : Nat} {m : Dm}
    (hown : w'.ownsRow 0 96 7 (.slice (some ⟨g, 0, none⟩) (ds.length + 1) cap) (ds.length + 1) (dcells ds ++ m.cells)) (hgr : w.grownBy w' v.ownBlock) (hg : v.ownBlock = some g ∨ w.heap.size ≤ g) :
    Tr X fs mk (.slice (some ⟨g, 0, none⟩) (ds.length + 1) cap) (ds ++ [m]) (w'.setCell ⟨X, 2, none⟩ (.slice (some ⟨g, 0, none⟩) (ds.length + 1) cap)) ∧
    Gm.Mvg (TOff X v) (TOff X (.slice (some ⟨g, 0, none⟩) (ds.length + 1) cap)) w (w'.setCell ⟨X, 2, none⟩ (.slice (some ⟨g, 0, none⟩) (ds.length + 1) cap)) := by
  have hXl := h.ltX
  have hk : ∀ i, i ≠ X → (w'.setCell ⟨X, 2, none⟩ (.slice (some ⟨g, 0, none⟩) (ds.length + 1) cap)).heap[i]? = w'.heap[i]? := fun i hi => Below.heap_setCell _ _ _ _ hi
  have hX : w'.heap[X]? = some (.cells #[fs, mk, v] 130 (0, 0)) := (hgr.block X hXl (fun e => h.ne e.symm)).trans h.obj
  have hgX : g ≠ X := fun e => by
    rcases hg with hg | hg
    · exact h.ne (by rw [hg, e])
    · omega
  refine ⟨⟨?_, ?_, ?_⟩, ⟨hgr.os, hgr.tape, hgr.output, Nat.le_trans hgr.size (by simp [World.setCell]), fun i hi ho => (hk i ho.1).trans (hgr.block i hi ho.2), fun i hi ho => ⟨ho.1, fun e => ?_⟩⟩⟩
  · rw [heap_setCell_same _ _ _ _ _ _ hX]
    rfl
  · rw [List.length_append, dcells_app]
    have e : dcells [m] = m.cells := by unfold dcells; simp
    rw [e]
    exact Gm.ownsKeep hown fun i hi => hk i fun e => hgX (by
      have : some g = some i := hi
      injection this with this
      omega)
  · intro e
    have : some g = some X := e
    injection this with this
    exact hgX this
  · have : some i = some g := e
    injection this with this
    subst this
    rcases hg with hg | hg
    · exact ho.2 hg.symm
    · omega
end Ev

set_option maxHeartbeats 4000000 in
set_option maxRecDepth 20000 in
theorem erun_succ {l : List Cd.Fm} {P : Option Addr} {cp M N : Nat} (hg : ∀ f ∈ Cd.fns l, Ev.GoodF (Cd.fns l) f) (hC : Ev.RunC l P cp M N) : Ev.RunC l P cp M (N + 1) := by
  intro K X v ds t A c w hfuel ht hTr hE hArgs hA hK hlen
  obtain ⟨V0, hV0⟩ : ∃ V, V = w.alloc (.cells (t.arr A c) 41) := ⟨_, rfl⟩
  obtain ⟨W0, hW0⟩ : ∃ V, V = V0.alloc (.cells #[.int .i64 0, .int .i64 0] 30) := ⟨_, rfl⟩
  have hb1 : Below w.heap.size w V0 := by rw [hV0]; exact Cd.fn1 _ _ _
  have hs1 : V0.heap.size = w.heap.size + 1 := by rw [hV0]; simp
  have hb2 : Below V0.heap.size V0 W0 := by rw [hW0]; exact Cd.fn1 _ _ _
  have hs2 : W0.heap.size = w.heap.size + 2 := by rw [hW0]; simp; omega
  have hb : Below w.heap.size w W0 := hb1.trans (hb2.mono hb1.size)
  have hB0 : W0.heap[w.heap.size]? = some (.cells (t.arr A c) 41 (0, 0)) := by rw [hb2.block _ (by omega), hV0]; exact heap_alloc_new w _
  have hB1 : W0.heap[w.heap.size + 1]? = some (.cells #[.int .i64 0, .int .i64 0] 30 (0, 0)) := by rw [← hs1, hW0]; exact heap_alloc_new V0 _
  obtain ⟨B1, hB1e⟩ : ∃ B, B = w.heap.size + 1 := ⟨_, rfl⟩
  have hmv : ∀ off : Nat → Prop, Gm.Mvg off off w W0 := fun off => Gm.Mvg.of_below hb
  have HTR := Lib.hid (hTr.below hb)
  have HE := Lib.hid (hE.mv (hmv _))
  have hne1 : ∀ i, i < w.heap.size → i ≠ B1 := fun i hi => by omega
  have HAR : Hid (Ev.Args (fun i => Ev.TOff X v i ∧ (K i ∧ i ≠ B1)) ds W0) := (hArgs.imp (off' := fun i => Ev.TOff X v i ∧ (K i ∧ i ≠ B1)) (fun i hi ho => ⟨ho.1, ho.2, hne1 i hi⟩)).mv (hmv _)
  have HA : Hid (Ev.AOk (fun i => Ev.TOff X v i ∧ (K i ∧ i ≠ B1)) W0 A t.args) := (hA.imp (off' := fun i => Ev.TOff X v i ∧ (K i ∧ i ≠ B1)) (fun i hi ho => ⟨ho.1, ho.2, hne1 i hi⟩)).mv (hmv _)
  have HK : Hid (∀ i, W0.heap.size ≤ i → K i ∧ i ≠ B1) := fun i hi => ⟨hK i (by omega), by omega⟩
  have HW0 : Hid (W0.heap.size = w.heap.size + 2 ∧ B1 = w.heap.size + 1) := ⟨hs2, hB1e⟩
  have HO1 : Hid (Ev.TOff X v B1 ∧ Ev.TOff X v w.heap.size) := ⟨hTr.fresh (by omega), hTr.fresh (Nat.le_refl _)⟩
  have HMV : Hid (Gm.Mvg (Ev.TOff X v) (Ev.TOff X v) w W0) := hmv _
  have HG := Lib.hid hg
  have HT := Lib.hid ht
  have HC := Lib.hid hC
  have HLE := Lib.hid hlen
  have HFU := Lib.hid hfuel
  obtain ⟨fi, hfi, hfl⟩ := ht.fn
  have hfl2 : fi < l.length := by rw [Cd.fns_len] at hfl; exact hfl
  have hfo : Ev.fnOf (Cd.fns l) t = l[fi].f := by
    unfold Ev.fnOf
    rw [hfi, Int.toNat_natCast, List.getElem?_eq_getElem hfl]
    exact List.getElem_map ..
  obtain ⟨n, hn, hn16⟩ := (hg _ ht.mem).regs
  obtain ⟨an, han, han2⟩ := (hg _ ht.mem).args
  have hta := ht.args
  have HN : Hid (n ≤ 16 ∧ t.args.length ≤ n ∧ (Ev.fnOf (Cd.fns l) t).regs = (n : Int)) := ⟨hn16, by omega, hn⟩
  rw [hfo] at hn
  have HFC : Hid (∀ U, Cd.Prog U U.heap.size P l → ∃ ad : Addr, P = some ad ∧ U.cell? (ad.add (fi * 3)) = some (.int .i64 l[fi].f.args) ∧ U.cell? ⟨(ad.add (fi * 3)).block, (ad.add (fi * 3)).off + 1, none⟩ = some (.int .i64 (n : Int)) ∧
      U.cell? ⟨(ad.add (fi * 3)).block, (ad.add (fi * 3)).off + 2, none⟩ = some (.slice l[fi].A l[fi].f.ops.length l[fi].c)) := fun U hU => by
    obtain ⟨ad, h1, _, h2, h3, h4⟩ := Cd.fn_at hU.fs hfl2
    rw [hn] at h3
    exact ⟨ad, h1, h2, h3, h4⟩
  have f0 : (0 : Int) ≤ (fi : Int) := by omega
  have f1 : (fi : Int) < (l.length : Int) := by omega
  have HFI := Lib.hid hfi
  generalize l[fi].f.args = xa at HFC
  generalize l[fi].f.ops.length = xl at HFC
  generalize l[fi].A = xA at HFC
  generalize l[fi].c = xc at HFC
  unfold Ev.Tsk.val
  unfold Ev.Tsk.arr at hV0 hB0
  rw [hfi] at hV0 hB0 ⊢
  have b0 : W0.cell? ⟨w.heap.size, 0, none⟩ = some (.string t.path) := cell_of_row _ _ 0 _ _ _ hB0
  have b1 : W0.cell? ⟨w.heap.size, 1, none⟩ = some (.int .i64 (fi : Int)) := cell_of_row _ _ 1 _ _ _ hB0
  have b2 : W0.cell? ⟨w.heap.size, 2, none⟩ = some (.slice A t.args.length c) := cell_of_row _ _ 2 _ _ _ hB0
  have b3 : W0.cell? ⟨w.heap.size, 3, none⟩ = some (.int .i64 (t.fuel : Int)) := cell_of_row _ _ 3 _ _ _ hB0
  have HB0 := Lib.hid hB0
  have HB1 : Hid (W0.heap[B1]? = some (.cells #[.int .i64 0, .int .i64 0] 30 (0, 0))) := by rw [hB1e]; exact hB1
  have HV : Hid (w.heap.size = w.heap.size) := rfl
  obtain ⟨VA, vc, hv⟩ := Ev.own_slice HTR.out.row
  subst hv
  have x2 := HTR.out.x2
  have xf2 := HTR.out.xf 2
  clear hfuel ht hTr hE hArgs hA hK hlen hg hC hb1 hs1 hb2 hs2 hb hB0 hB1 hmv hne1 hfi hfl hfl2 hfo hn hn16 han han2 hta HV
  go_enter Tryz.func52, Tryz.ntmps52
  go_upto_region 1 with fail
  rw [← hV0, ← hW0]
  clear hV0 hW0
  rw [← hB1e]
  obtain ⟨B0, hB0e⟩ : ∃ B, B = w.heap.size := ⟨_, rfl⟩
  rw [← hB0e] at b0 b1 b2 b3 HB0 HO1 ⊢
  have HB0E := Lib.hid hB0e
  clear hB0e hB1e
  go_upto_region 2 with fail
  go_cut [] (fun wx => ∃ v1 : Value, Hid (Ev.Tr X (.slice P l.length cp) (.map (some M)) v1 (ds ++ [Ev.hole t A c]) wx ∧ Gm.Mvg (Ev.TOff X (.slice VA ds.length vc)) (Ev.TOff X v1) W0 wx))
  case first =>
    obtain ⟨U, hU⟩ : ∃ U, U = (W0.alloc (.cells #[.string t.path, .int .i64 (fi : Int), .slice A t.args.length c, .int .i64 (t.fuel : Int), .int .i64 0, .int .i64 0, .int .i64 0] 96)).drew := ⟨_, rfl⟩
    have HU : Hid (Ev.Tr X (.slice P l.length cp) (.map (some M)) (.slice VA ds.length vc) ds U) := by
      show Ev.Tr _ _ _ _ _ _
      rw [hU]
      exact HTR.out.below (Cd.fn1 _ _ _).drew
    have HMU : Hid (Gm.Mvg (Ev.TOff X (.slice VA ds.length vc)) (Ev.TOff X (.slice VA ds.length vc)) W0 U) := by
      show Gm.Mvg _ _ _ _
      rw [hU]
      exact Gm.Mvg.of_below (Cd.fn1 _ _ _).drew
    have HBL : Hid (U.heap[W0.heap.size]? = some (.cells (Ev.hole t A c).cells.toArray 96 (0, 0))) := by
      show _ = _
      have e : (Ev.hole t A c).cells.toArray = #[.string t.path, .int .i64 (fi : Int), .slice A t.args.length c, .int .i64 (t.fuel : Int), .int .i64 0, .int .i64 0, .int .i64 0] := by
        unfold Ev.hole Ev.Dm.cells
        simp only [HFI.out]
        rfl
      rw [hU, e]
      exact heap_alloc_new W0 _
    have x2u : U.cell? ⟨X, 2, none⟩ = some (.slice VA ds.length vc) := HU.out.x2
    have hd100 : ds.length ≤ 100000 := by have := HLE.out; omega
    have x2v : (W0.alloc (.cells #[.string t.path, .int .i64 (fi : Int), .slice A t.args.length c, .int .i64 (t.fuel : Int), .int .i64 0, .int .i64 0, .int .i64 0] 96)).cell? ⟨X, 2, none⟩ = some (.slice VA ds.length vc) := Ev.cell_alloc _ x2
    have HUE : Hid ((W0.alloc (.cells #[.string t.path, .int .i64 (fi : Int), .slice A t.args.length c, .int .i64 (t.fuel : Int), .int .i64 0, .int .i64 0, .int .i64 0] 96)).drew = U) := hU.symm
    clear hU
    go_region_law (first
      | (rw [HUE.out]
         refine Ev.dpush_step (U := U) HU.out.row (by rfl) _ _ (by rfl) (by rfl) (by rfl) (Ev.hole t A c) HBL.out hd100 ?_
         intro g cap w6 hown hgr hg
         have c26 : w6.cell? ⟨X, 2, none⟩ = some (.slice VA ds.length vc) := (World.cell?_of_block (w := U) (hgr.block X HU.out.ltX (fun e => HU.out.ne e.symm))).trans x2u
         have f26 : w6.frozen? ⟨X, 2, none⟩ = false := (World.frozen?_of_block (w := U) (hgr.block X HU.out.ltX (fun e => HU.out.ne e.symm))).trans (HU.out.xf 2)))
    all_goals
      go_wp2_with fail
      go_meet
      case rel =>
        have hp := HU.out.push (m := Ev.hole t A c) hown hgr (by rcases hg with h | h; exact .inl h; exact .inr (by rw [h]; exact Nat.le_refl _))
        exact ⟨_, hp.1, HMU.out.trans hp.2⟩
  case rest =>
    rename World => wx
    obtain ⟨v1, HX⟩ := hcut
    have HTX := Lib.hid HX.out.1
    have HMX := Lib.hid HX.out.2
    have hB0l := Cd.ltH HB0.out
    have hB1l := Cd.ltH HB1.out
    have HB0X : Hid (wx.heap[B0]? = some (.cells #[.string t.path, .int .i64 (fi : Int), .slice A t.args.length c, .int .i64 (t.fuel : Int)] 41 (0, 0)) ∧ Ev.TOff X v1 B0) := ⟨(HMX.out.block B0 hB0l HO1.out.2).trans HB0.out, HMX.out.keep B0 hB0l HO1.out.2⟩
    have HB1X : Hid (wx.heap[B1]? = some (.cells #[.int .i64 0, .int .i64 0] 30 (0, 0)) ∧ Ev.TOff X v1 B1) := ⟨(HMX.out.block B1 hB1l HO1.out.1).trans HB1.out, HMX.out.keep B1 hB1l HO1.out.1⟩
    have HEX := Lib.hid (HE.out.mv HMX.out)
    have HARX : Hid (Ev.Args (fun i => Ev.TOff X v1 i ∧ (K i ∧ i ≠ B1)) (ds ++ [Ev.hole t A c]) wx) := (HAR.out.mv (Ev.mvg_and HMX.out)).app (fun m hm => by
      rw [List.mem_singleton.1 hm]
      exact HA.out.mv (Ev.mvg_and HMX.out))
    have HLIX : Hid (Lies wx wx.heap.size A (icells t.args)) := (HA.out.mv (Ev.mvg_and HMX.out)).li
    have HKX : Hid (∀ i, wx.heap.size ≤ i → K i ∧ i ≠ B1) := fun i hi => HK.out i (Nat.le_trans HMX.out.size hi)
    have HMW := Lib.hid (HMV.out.trans HMX.out)
    clear HX HTR HE HAR HA HK HB0 HB1 HO1 HMV x2 xf2 b0 b1 b2 b3 hB0l hB1l
    obtain ⟨ad, had, c0, c1, c2⟩ := HFC.out wx HEX.out.pr
    subst had
    have b0 : wx.cell? ⟨B0, 0, none⟩ = some (.string t.path) := cell_of_row _ _ 0 _ _ _ HB0X.out.1
    have b1 : wx.cell? ⟨B0, 1, none⟩ = some (.int .i64 (fi : Int)) := cell_of_row _ _ 1 _ _ _ HB0X.out.1
    have b2 : wx.cell? ⟨B0, 2, none⟩ = some (.slice A t.args.length c) := cell_of_row _ _ 2 _ _ _ HB0X.out.1
    have b3 : wx.cell? ⟨B0, 3, none⟩ = some (.int .i64 (t.fuel : Int)) := cell_of_row _ _ 3 _ _ _ HB0X.out.1
    have x0 := HTX.out.x0
    have HBEG : Hid (∀ U, Below wx.heap.size wx U → Calls Tryz.prog 81 #[.agg #[.string t.path, .int .i64 (fi : Int), .slice A t.args.length c, .int .i64 (t.fuel : Int)], .agg #[.int .i64 xa, .int .i64 (n : Int), .slice xA xl xc]] U fun e w' => Ev.BegP t A c n U e w' ∧ Below wx.heap.size wx w') := fun U hU => by
      have h := ebegin t A c n (.int .i64 xa) (.slice xA xl xc) U ((HLIX.out.below hU).mono hU.size) HN.out.1 HN.out.2.1
      unfold Ev.Tsk.val at h
      rw [HFI.out] at h
      refine h.mono fun e w' hh => ⟨hh, ?_⟩
      obtain ⟨_, _, _, _, hb, _⟩ := hh
      exact hU.trans (hb.mono hU.size)
    have S3 : wx.cell? ⟨B0, 0, none⟩ = some (.string t.path) ∧ wx.cell? ⟨B0, 1, none⟩ = some (.int .i64 (fi : Int)) ∧ wx.cell? ⟨B0, 2, none⟩ = some (.slice A t.args.length c) ∧ wx.cell? ⟨B0, 3, none⟩ = some (.int .i64 (t.fuel : Int)) ∧ wx.cell? ⟨X, 0, none⟩ = some (.slice (some ad) l.length cp) ∧
      wx.cell? (ad.add (fi * 3)) = some (.int .i64 xa) ∧ wx.cell? ⟨(ad.add (fi * 3)).block, (ad.add (fi * 3)).off + 1, none⟩ = some (.int .i64 (n : Int)) ∧ wx.cell? ⟨(ad.add (fi * 3)).block, (ad.add (fi * 3)).off + 2, none⟩ = some (.slice xA xl xc) := ⟨b0, b1, b2, b3, x0, c0, c1, c2⟩
    clear b0 b1 b2 b3 x0 c0 c1 c2
    go_upto_region 3 with fail
    go_region_held3 (fun w' => w'.cell? ⟨B0, 0, none⟩ = some (.string t.path) ∧ w'.cell? ⟨B0, 1, none⟩ = some (.int .i64 (fi : Int)) ∧ w'.cell? ⟨B0, 2, none⟩ = some (.slice A t.args.length c) ∧ w'.cell? ⟨B0, 3, none⟩ = some (.int .i64 (t.fuel : Int)) ∧ w'.cell? ⟨X, 0, none⟩ = some (.slice (some ad) l.length cp) ∧
      w'.cell? (ad.add (fi * 3)) = some (.int .i64 xa) ∧ w'.cell? ⟨(ad.add (fi * 3)).block, (ad.add (fi * 3)).off + 1, none⟩ = some (.int .i64 (n : Int)) ∧ w'.cell? ⟨(ad.add (fi * 3)).block, (ad.add (fi * 3)).off + 2, none⟩ = some (.slice xA xl xc))
      (first
        | exact S3 | exact ⟨Ev.cell_below hb3 S3.1, Ev.cell_below hb3 S3.2.1, Ev.cell_below hb3 S3.2.2.1, Ev.cell_below hb3 S3.2.2.2.1, Ev.cell_below hb3 S3.2.2.2.2.1, Ev.cell_below hb3 S3.2.2.2.2.2.1, Ev.cell_below hb3 S3.2.2.2.2.2.2.1, Ev.cell_below hb3 S3.2.2.2.2.2.2.2⟩)
      (first
        | (with_reducible refine (HBEG.out _ (Below.refl _ _).drew).mono ?_
           rintro e w3 ⟨⟨T, R, rfl, hTk, hbb, hT, hR⟩, hb3⟩))
    have hsx := hb3.size
    have hTl := hTk.ltT
    have hRl := hTk.ltR
    have hTR : Ev.Tr X (.slice (some ad) l.length cp) (.map (some M)) v1 (ds ++ [Ev.hole t A c]) w3 := HTX.out.below hb3
    have hdr : wx.drew.heap.size = wx.heap.size := rfl
    rw [hdr] at hT hR
    have hNO : ∀ i, i < wx.heap.size → Ev.TOff X v1 i → Ev.NOff X T R v1 (.slice none 0 0) i := fun i hi ho => ⟨ho, by omega, by omega, by simp [Value.ownBlock]⟩
    have HNW : Hid (Ev.NowE (fun i => K i ∧ i ≠ B1) X T R (.slice (some ad) l.length cp) (.map (some M)) v1 (.slice none 0 0) (ds ++ [Ev.hole t A c]) [] t A c (Ev.beg0 t n) w3) := by
      refine ⟨by rw [List.append_nil]; exact hTR, hTk, rfl, HTX.out.fresh hT, HTX.out.fresh hR, fun g hg => by simp [Value.ownBlock] at hg, ?_, fun i hi => HKX.out i (Nat.le_trans hsx hi)⟩
      rw [List.append_nil]
      exact (HARX.out.imp (off' := fun i => Ev.NOff X T R v1 (.slice none 0 0) i ∧ (K i ∧ i ≠ B1)) (fun i hi ho => ⟨hNO i hi ho.1, ho.2⟩)).mv (Gm.Mvg.of_below hb3)
    have HE3 : Hid (Ev.Env l (some ad) M (Ev.mF 7) (Ev.NOff X T R v1 (.slice none 0 0)) w3) := (HEX.out.imp hNO).mv (Gm.Mvg.of_below hb3)
    have HST : Hid (Ev.start (Cd.fns l) t = Ev.beg0 t n) := by
      show _ = _
      rw [Ev.start_beg, HN.out.2.2, Int.toNat_natCast]
    have HFN : Hid (Calls Tryz.prog 82 #[.pointer (some ⟨X, 0, none⟩), .pointer (some ⟨T, 0, none⟩)] w3
        (Ev.FinP (fun i => K i ∧ i ≠ B1) X T R (.slice (some ad) l.length cp) (.map (some M)) v1 (.slice none 0 0) (ds ++ [Ev.hole t A c]) t A c (Ev.doT (Cd.fns l) t) w3)) := by
      have := efinish HNW.out HE3.out HG.out HT.out (by rw [← HST.out]; exact Ev.start_ok HT.out HG.out) (by
        rw [List.length_append]
        show ds.length + 1 + 0 + t.fuel ≤ 70000
        have := HLE.out
        omega) HC.out (by show t.fuel ≤ N; have := HFU.out; omega)
      rw [← HST.out] at this
      exact this
    have HB1Y : Hid (w3.heap[B1]? = some (.cells #[.int .i64 0, .int .i64 0] 30 (0, 0)) ∧ Ev.NOff X T R v1 (.slice none 0 0) B1) := ⟨(hb3.block B1 (Cd.ltH HB1X.out.1)).trans HB1X.out.1, hNO B1 (Cd.ltH HB1X.out.1) HB1X.out.2⟩
    have HM3 : Hid (Gm.Mvg (Ev.TOff X (.slice VA ds.length vc)) (Ev.TOff X v1) w w3 ∧ w.heap.size ≤ T ∧ w.heap.size ≤ R) := by
      have h1 := HMW.out.size
      exact ⟨HMW.out.trans (Gm.Mvg.of_below hb3), by omega, by omega⟩
    obtain ⟨rv, hrv⟩ : ∃ x, x = (Ev.doT (Cd.fns l) t).1.val := ⟨_, rfl⟩
    obtain ⟨re, hre⟩ : ∃ x, x = (Ev.doT (Cd.fns l) t).1.err := ⟨_, rfl⟩
    have HFN2 : Hid (Calls Tryz.prog 82 #[.pointer (some ⟨X, 0, none⟩), .pointer (some ⟨T, 0, none⟩)] w3 fun e w' => e = .returned (.agg #[.int .i64 rv, .int .i64 re]) ∧
        ∃ (sx : Ev.St) (v' u' : Value) (ds' : List Ev.Dm), Ev.NowE (fun i => K i ∧ i ≠ B1) X T R (.slice (some ad) l.length cp) (.map (some M)) v' u' (ds ++ [Ev.hole t A c]) ds' t A c sx w' ∧ (Ev.doT (Cd.fns l) t).2 = ⟨t, (Ev.doT (Cd.fns l) t).1, sx.kids⟩ :: sx.done ∧ Gm.Mvg (Ev.NOff X T R v1 (.slice none 0 0)) (Ev.NOff X T R v' u') w3 w') := HFN.out.mono fun e w' hh => by
      rw [hrv, hre]
      exact hh
    have HRV := Lib.hid hrv
    have HRE := Lib.hid hre
    clear hsx hTl hRl hTR hdr hT hR hNO hTk hbb hb3 S3 HTX HMX HMW HB0X HB1X HEX HARX HLIX HKX HBEG f0 f1 hrv hre HFN HE3
    go_upto_region 4 with fail
    go_wp2_with fail
    refine HFN2.out.mono ?_
    rintro e w4 ⟨rfl, sx, v', u', ds', hN, hz, hm⟩
    have HRZ := Lib.hid hz
    obtain ⟨g, cap, hv'⟩ := Ev.own_some hN.tr.row (by rw [List.length_append, List.length_append]; simp; omega)
    subst hv'
    obtain ⟨W5, hW5⟩ : ∃ W, W = w4.alloc (.cells #[.int .i64 rv, .int .i64 re] 30) := ⟨_, rfl⟩
    have hb5 : Below w4.heap.size w4 W5 := by rw [hW5]; exact Cd.fn1 _ _ _
    have hQ5 : W5.heap[w4.heap.size]? = some (.cells #[.int .i64 rv, .int .i64 re] 30 (0, 0)) := by rw [hW5]; exact heap_alloc_new w4 _
    have HN5 := Lib.hid (hN.below hb5)
    have HM5 := Lib.hid (hm.trans (Gm.Mvg.of_below hb5))
    have HQ5 : Hid (W5.heap[w4.heap.size]? = some (.cells #[.int .i64 rv, .int .i64 re] 30 (0, 0)) ∧ Ev.TOff X (.slice (some ⟨g, 0, none⟩) (ds ++ [Ev.hole t A c] ++ ds').length cap) w4.heap.size) := ⟨hQ5, hN.tr.fresh (Nat.le_refl _)⟩
    have HB5 : Hid (W5.heap[B1]? = some (.cells #[.int .i64 0, .int .i64 0] 30 (0, 0)) ∧ Ev.TOff X (.slice (some ⟨g, 0, none⟩) (ds ++ [Ev.hole t A c] ++ ds').length cap) B1) := ⟨(HM5.out.block B1 (Cd.ltH HB1Y.out.1) HB1Y.out.2).trans HB1Y.out.1, (HM5.out.keep B1 (Cd.ltH HB1Y.out.1) HB1Y.out.2).1⟩
    have hL : (ds ++ [Ev.hole t A c] ++ ds').length = ds.length + 1 + ds'.length := by simp; omega
    rw [hL] at HN5 HM5 HQ5 HB5
    obtain ⟨L, hLe⟩ : ∃ L, L = ds.length + 1 + ds'.length := ⟨_, rfl⟩
    rw [← hLe] at HN5 HM5 HQ5 HB5
    have HL : Hid (L = (ds ++ [Ev.hole t A c] ++ ds').length) := by show _ = _; rw [hL, hLe]
    have hrow : W5.ownsRow 0 96 7 (.slice (some ⟨g, 0, none⟩) L cap) L (Ev.dcells (ds ++ [Ev.hole t A c] ++ ds')) := by
      have := HN5.out.tr.row
      rw [← HL.out] at this
      exact this
    have hr4 := Ev.row_cell hrow (Ev.dcells_at ds ds' (Ev.hole t A c) (show 4 < 7 by decide))
    have hr5 := Ev.row_cell hrow (Ev.dcells_at ds ds' (Ev.hole t A c) (show 5 < 7 by decide))
    have hr6 := Ev.row_cell hrow (Ev.dcells_at ds ds' (Ev.hole t A c) (show 6 < 7 by decide))
    have hHL : (ds ++ [Ev.hole t A c] ++ ds').length * 7 = (Ev.dcells (ds ++ [Ev.hole t A c] ++ ds')).length := (Ev.dcells_len _).symm
    obtain ⟨r4, rf4⟩ : W5.cell? ⟨g, ds.length * 7 + 4, none⟩ = some (.int .i64 0) ∧ W5.frozen? ⟨g, ds.length * 7 + 4, none⟩ = false := hr4
    obtain ⟨r5, rf5⟩ : W5.cell? ⟨g, ds.length * 7 + 5, none⟩ = some (.int .i64 0) ∧ W5.frozen? ⟨g, ds.length * 7 + 5, none⟩ = false := hr5
    obtain ⟨r6, rf6⟩ : W5.cell? ⟨g, ds.length * 7 + 6, none⟩ = some (.int .i64 0) ∧ W5.frozen? ⟨g, ds.length * 7 + 6, none⟩ = false := hr6
    have HROW := Lib.hid hrow
    have q0 : W5.cell? ⟨w4.heap.size, 0, none⟩ = some (.int .i64 rv) := cell_of_row _ _ 0 _ _ _ HQ5.out.1
    have q1 : W5.cell? ⟨w4.heap.size, 1, none⟩ = some (.int .i64 re) := cell_of_row _ _ 1 _ _ _ HQ5.out.1
    have t7 : W5.cell? ⟨T, 7, none⟩ = some (.int .i64 (sx.kids : Int)) := HN5.out.tk.cell 7
    have x2 := HN5.out.tr.x2
    have i0 : (0 : Int) ≤ (ds.length : Int) := by omega
    have i1 : (ds.length : Int) < (L : Int) := by omega
    clear hN hz hm hb5 hQ5 hL hLe hrow hHL HNW HFN2 HB1Y
    go_upto_region 5 with fail
    rw [← hW5]
    clear hW5
    generalize w4.heap.size = Q at HQ5 q0 q1 ⊢
    go_region
    obtain ⟨W8, hW8⟩ : ∃ W, W = (((W5.setCell ⟨g, ds.length * 7 + 4, none⟩ (.int .i64 rv)).setCell ⟨g, ds.length * 7 + 4 + 1, none⟩ (.int .i64 re)).setCell ⟨g, ds.length * 7 + 6, none⟩ (.int .i64 (sx.kids : Int))).drew := ⟨_, rfl⟩
    have hk8 : ∀ i, i ≠ g → W8.heap[i]? = W5.heap[i]? := fun i hi => by
      rw [hW8]
      exact (Below.heap_setCell _ _ _ _ hi).trans ((Below.heap_setCell _ _ _ _ hi).trans (Below.heap_setCell _ _ _ _ hi))
    have hs8 : W5.heap.size ≤ W8.heap.size ∧ W8.os = W5.os ∧ W8.tape = W5.tape ∧ W8.output = W5.output := by
      rw [hW8]
      exact ⟨by simp [World.setCell], rfl, rfl, rfl⟩
    have hng : ∀ i, Ev.TOff X (.slice (some ⟨g, 0, none⟩) L cap) i → i ≠ g := fun i hi e => hi.2 (by rw [e]; rfl)
    have HR8 : Hid (W8.ownsRow 0 96 7 (.slice (some ⟨g, 0, none⟩) L cap) L (Ev.dcells (ds ++ [⟨⟨t, ⟨rv, re⟩, sx.kids⟩, A, c⟩] ++ ds'))) := by
      have hl : ∀ (xs : List Value), xs.length = L * 7 → ds.length * 7 + 6 < xs.length := fun xs h => by omega
      have h0 := HROW.out
      have h1 := Ev.erow_set h0 (j := ds.length * 7 + 4) (by have := hl _ h0.1; omega) (.int .i64 rv)
      have h2 := Ev.erow_set h1 (j := ds.length * 7 + 4 + 1) (by have := hl _ h1.1; omega) (.int .i64 re)
      have h3 := Ev.erow_set h2 (j := ds.length * 7 + 6) (by have := hl _ h2.1; omega) (.int .i64 (sx.kids : Int))
      have e := Ev.dcells_set ds ds' t A c ⟨0, 0⟩ ⟨rv, re⟩ 0 sx.kids
      have e2 : (Ev.hole t A c) = ⟨⟨t, ⟨0, 0⟩, 0⟩, A, c⟩ := rfl
      rw [e2, show ds.length * 7 + 4 + 1 = ds.length * 7 + 5 by omega, e] at h3
      rw [hW8]
      exact h3
    have q80 : W8.cell? ⟨Q, 0, none⟩ = some (.int .i64 rv) := (World.cell?_of_block (w := W5) (hk8 Q (hng Q HQ5.out.2))).trans q0
    have q81 : W8.cell? ⟨Q, 1, none⟩ = some (.int .i64 re) := (World.cell?_of_block (w := W5) (hk8 Q (hng Q HQ5.out.2))).trans q1
    have hB8 : W8.heap[B1]? = some (.cells #[.int .i64 0, .int .i64 0] 30 (0, 0)) := (hk8 B1 (hng B1 HB5.out.2)).trans HB5.out.1
    have y0 : W8.cell? ⟨B1, 0, none⟩ = some (.int .i64 0) := cell_of_row _ _ 0 _ _ _ hB8
    have y1 : W8.cell? ⟨B1, 1, none⟩ = some (.int .i64 0) := cell_of_row _ _ 1 _ _ _ hB8
    have yf0 := frozen_of_row _ _ 0 _ _ hB8
    have yf1 := frozen_of_row _ _ 1 _ _ hB8
    have HRW := Lib.hid (Ev.set2_heap (x := .int .i64 rv) (y := .int .i64 re) hB8)
    have HI : Hid ((Tryz.prog.info? 30).map (·.size) = some 2) := Ev.res_size
    have HFIN : Hid (Ev.RunP (Cd.fns l) K X (.slice (some ad) l.length cp) (.map (some M)) (.slice VA ds.length vc) ds t w (.returned (.agg #[.int .i64 rv, .int .i64 re])) ((W8.setCell ⟨B1, 0, none⟩ (.int .i64 rv)).setCell ⟨B1, 1, none⟩ (.int .i64 re))) := by
      have hk9 : ∀ i, i ≠ B1 → ((W8.setCell ⟨B1, 0, none⟩ (.int .i64 rv)).setCell ⟨B1, 1, none⟩ (.int .i64 re)).heap[i]? = W8.heap[i]? := fun i hi => (Below.heap_setCell _ _ _ _ hi).trans (Below.heap_setCell _ _ _ _ hi)
      have hs9 : W8.heap.size ≤ ((W8.setCell ⟨B1, 0, none⟩ (.int .i64 rv)).setCell ⟨B1, 1, none⟩ (.int .i64 re)).heap.size := by simp [World.setCell]
      have hXB : X ≠ B1 := fun e => HB5.out.2.1 e.symm
      have hXg : X ≠ g := fun e => HN5.out.tr.ne (by rw [e]; rfl)
      have hgB : g ≠ B1 := fun e => hng B1 HB5.out.2 e.symm
      have hsw : w.heap.size ≤ W5.heap.size := Nat.le_trans HM3.out.1.size HM5.out.size
      have hres : (Ev.doT (Cd.fns l) t).1 = ⟨rv, re⟩ := by rw [HRV.out, HRE.out]
      have hcmp : (ds ++ ([(⟨⟨t, ⟨rv, re⟩, sx.kids⟩, A, c⟩ : Ev.Dm)] ++ ds')) = ds ++ [⟨⟨t, ⟨rv, re⟩, sx.kids⟩, A, c⟩] ++ ds' := (List.append_assoc _ _ _).symm
      have hkeepT : ∀ i, i < w.heap.size → Ev.TOff X (.slice VA ds.length vc) i → Ev.NOff X T R v1 (.slice none 0 0) i := fun i hi ho => ⟨HM3.out.1.keep i hi ho, by have := HM3.out.2.1; omega, by have := HM3.out.2.2; omega, by simp [Value.ownBlock]⟩
      have hlt3 : ∀ i, i < w.heap.size → i < w3.heap.size := fun i hi => Nat.lt_of_lt_of_le hi HM3.out.1.size
      refine ⟨by rw [hres], .slice (some ⟨g, 0, none⟩) L cap, [⟨⟨t, ⟨rv, re⟩, sx.kids⟩, A, c⟩] ++ ds', ?_, ?_, ?_, ?_⟩
      · rw [hcmp]
        refine ⟨(hk9 X hXB).trans ((hk8 X hXg).trans HN5.out.tr.obj), ?_, HN5.out.tr.ne⟩
        have e : (ds ++ [(⟨⟨t, ⟨rv, re⟩, sx.kids⟩, A, c⟩ : Ev.Dm)] ++ ds').length = L := by rw [HL.out]; simp
        rw [e]
        exact Gm.ownsKeep HR8.out fun i hi => hk9 i fun e => hgB (by
          have : some g = some i := hi
          injection this with this
          omega)
      · rw [HRZ.out, List.map_append, HN5.out.told, hres]
        rfl
      · rw [hcmp]
        have h5 : Ev.Args (fun i => Ev.NOff X T R (.slice (some ⟨g, 0, none⟩) L cap) u' i ∧ (K i ∧ i ≠ B1)) (ds ++ [⟨⟨t, ⟨rv, re⟩, sx.kids⟩, A, c⟩] ++ ds') W5 := fun m hm => by
          rcases List.mem_append.1 hm with hm | hm
          · rcases List.mem_append.1 hm with hm | hm
            · exact HN5.out.args m (List.mem_append_left _ (List.mem_append_left _ hm))
            · rw [List.mem_singleton.1 hm]
              exact HN5.out.args (Ev.hole t A c) (List.mem_append_left _ (List.mem_append_right _ (List.mem_singleton.2 rfl)))
          · exact HN5.out.args m (List.mem_append_right _ hm)
        exact h5.mv ⟨hs8.2.1, hs8.2.2.1, hs8.2.2.2, Nat.le_trans hs8.1 hs9, fun i _ ho => (hk9 i ho.2.2).trans (hk8 i (hng i ho.1.1)), fun i _ ho => ⟨ho.1.1, ho.2.1⟩⟩
      · refine ⟨hs8.2.1.trans (HM5.out.os.trans HM3.out.1.os), hs8.2.2.1.trans (HM5.out.tape.trans HM3.out.1.tape), hs8.2.2.2.trans (HM5.out.output.trans HM3.out.1.output), Nat.le_trans hsw (Nat.le_trans hs8.1 hs9), fun i hi ho => ?_, fun i hi ho => ?_⟩
        · have hn := hkeepT i hi ho
          have hn2 := HM5.out.keep i (hlt3 i hi) hn
          exact (hk9 i (by have := HW0.out.2; omega)).trans ((hk8 i (hng i hn2.1)).trans ((HM5.out.block i (hlt3 i hi) hn).trans (HM3.out.1.block i hi ho)))
        · exact (HM5.out.keep i (hlt3 i hi) (hkeepT i hi ho)).1
    rw [← hW8]
    clear hW8 hk8 hs8 hng hB8 q0 q1 t7 x2 i0 i1 r4 rf4 r5 rf5 r6 rf6 HROW HR8 HN5 HM5 HQ5 HB5 HL HRZ HM3
    go_wp2_with fail
    refine bodyPost_ret (v := .agg #[.int .i64 rv, .int .i64 re]) (results_cell_row Tryz.results52 _ _ B1 30 #[.int .i64 rv, .int .i64 re] (0, 0) _ rfl HRW.out Tryz.underlying30 rfl HI.out) rfl ?_
    exact HFIN.out
/-- run, whatever the fuel. -/
theorem erun_all {l : List Cd.Fm} {P : Option Addr} {cp M : Nat} (hg : ∀ f ∈ Cd.fns l, Ev.GoodF (Cd.fns l) f) : ∀ N, Ev.RunC l P cp M N := by
  intro N
  induction N with
  | zero => intro K X v ds t A c w h; omega
  | succ N ih => exact erun_succ hg ih
end Go.Proofs.YtepnofklmdofmaaGreatDoor
