/-
  Layer 13: the contract of the tree's fork, given that of run.
-/
import Derived.Test.YtepnofklmdofmaaGreatDoorLowEvO
import Derived.Test.YtepnofklmdofmaaGreatDoorLowBr
import Derived.Deep.RegionHeld3
namespace Go.Proofs.YtepnofklmdofmaaGreatDoor
open Go.RowKit

namespace Ev
/-- What an act leaves: the error told, and a state; the one that is said, if there was no error. -/
def DoP (K : Nat → Prop) (X T R : Nat) (fs mk v u : Value) (hd : List Dm) (t : Tsk) (A : Option Addr) (c : Nat) (E : Int) (s' : St) (w : World) (e : Ending) (w' : World) : Prop :=
  e = .returned (.int .i64 E) ∧ ∃ (sx : St) (v' u' : Value) (ds' : List Dm), NowE K X T R fs mk v' u' hd ds' t A c sx w' ∧ (E = 0 → sx = s') ∧ sx.kids = s'.kids ∧ sx.done = s'.done ∧ Gm.Mvg (NOff X T R v u) (NOff X T R v' u') w w'
/-- What run leaves. -/
def RunP (p : List Cd.FnV) (K : Nat → Prop) (X : Nat) (fs mk v : Value) (ds : List Dm) (t : Tsk) (w : World) (e : Ending) (w' : World) : Prop :=
  e = .returned (.agg #[.int .i64 (doT p t).1.val, .int .i64 (doT p t).1.err]) ∧ ∃ (v' : Value) (ms : List Dm), Tr X fs mk v' (ds ++ ms) w' ∧ ms.map Dm.d = (doT p t).2 ∧ Args (fun i => TOff X v' i ∧ K i) (ds ++ ms) w' ∧ Gm.Mvg (TOff X v) (TOff X v') w w'
/-- The contract of run, for less fuel than N. -/
def RunC (l : List Cd.Fm) (P : Option Addr) (cp M N : Nat) : Prop :=
  ∀ (K : Nat → Prop) (X : Nat) (v : Value) (ds : List Dm) (t : Tsk) (A : Option Addr) (c : Nat) (w : World), t.fuel < N → TOk (Cd.fns l) t → Tr X (.slice P l.length cp) (.map (some M)) v ds w → Env l P M (mF 7) (TOff X v) w →
    Args (fun i => TOff X v i ∧ K i) ds w → AOk (fun i => TOff X v i ∧ K i) w A t.args → (∀ i, w.heap.size ≤ i → K i) → ds.length + t.fuel + 1 ≤ 70000 →
    Calls Tryz.prog 52 #[.pointer (some ⟨X, 0, none⟩), t.val A c] w (RunP (Cd.fns l) K X (.slice P l.length cp) (.map (some M)) v ds t w)
theorem TOff.ne {X : Nat} {v : Value} {i j : Nat} (h : TOff X v i) (hj : j = X ∨ v.ownBlock = some j) : i ≠ j := fun e => by
  rcases hj with rfl | hj
  · exact h.1 e
  · exact h.2 (by rw [e, hj])
/-- A child to be joined was appended. -/
theorem NowE.pushW {K : Nat → Prop} {X T R : Nat} {fs mk v u : Value} {hd ds : List Dm} {t : Tsk} {A : Option Addr} {c : Nat} {s : St} {w w' : World} (h : NowE K X T R fs mk v u hd ds t A c s w) {g cap : Nat} {x : Int × Res}
    (hown : w'.ownsRow 0 246 3 (.slice (some ⟨g, 0, none⟩) (s.wts.length + 1) cap) (s.wts.length + 1) (wcells s.wts ++ wc1 x)) (hgr : w.grownBy w' u.ownBlock) (hg : u.ownBlock = some g ∨ w.heap.size ≤ g) :
    NowE K X T R fs mk v (.slice (some ⟨g, 0, none⟩) (s.wts.length + 1) cap) hd ds t A c { s with wts := s.wts ++ [x] } (w'.setCell ⟨T, 8, none⟩ (.slice (some ⟨g, 0, none⟩) (s.wts.length + 1) cap)) ∧
    Gm.Mvg (NOff X T R v u) (NOff X T R v (.slice (some ⟨g, 0, none⟩) (s.wts.length + 1) cap)) w (w'.setCell ⟨T, 8, none⟩ (.slice (some ⟨g, 0, none⟩) (s.wts.length + 1) cap)) := by
  have hTl := h.tk.ltT
  have hRl := h.tk.ltR
  have hXl := h.tr.ltX
  have hk : ∀ i, i ≠ T → (w'.setCell ⟨T, 8, none⟩ (.slice (some ⟨g, 0, none⟩) (s.wts.length + 1) cap)).heap[i]? = w'.heap[i]? := fun i hi => Below.heap_setCell _ _ _ _ hi
  have hT : w'.heap[T]? = some (.cells (tcs R u t A c s) 166 (0, 0)) := (hgr.block T hTl (fun e => h.tk.nu e.symm)).trans h.tk.obj
  have hgT : g ≠ T := fun e => by
    rcases hg with hg | hg
    · exact h.tk.nu (by rw [hg, e])
    · omega
  have hgR : g ≠ R := fun e => by
    rcases hg with hg | hg
    · exact h.tk.nr (by rw [hg, e])
    · omega
  have hog : TOff X v g := by
    rcases hg with hg | hg
    · exact h.o3 g hg
    · exact h.tr.fresh hg
  have hblk : ∀ i, i < w.heap.size → some i ≠ u.ownBlock → i ≠ T → (w'.setCell ⟨T, 8, none⟩ (.slice (some ⟨g, 0, none⟩) (s.wts.length + 1) cap)).heap[i]? = w.heap[i]? := fun i h1 h2 h3 => (hk i h3).trans (hgr.block i h1 h2)
  have mv : Gm.Mvg (NOff X T R v u) (NOff X T R v (.slice (some ⟨g, 0, none⟩) (s.wts.length + 1) cap)) w (w'.setCell ⟨T, 8, none⟩ (.slice (some ⟨g, 0, none⟩) (s.wts.length + 1) cap)) := by
    refine ⟨hgr.os, hgr.tape, hgr.output, Nat.le_trans hgr.size (by simp [World.setCell]), fun i hi ho => hblk i hi ho.2.2.2 ho.2.1, fun i hi ho => ⟨ho.1, ho.2.1, ho.2.2.1, fun e => ?_⟩⟩
    have : some i = some g := e
    injection this with this
    subst this
    rcases hg with hg | hg
    · exact ho.2.2.2 hg.symm
    · omega
  refine ⟨⟨h.tr.of (hblk X hXl (fun e => by have := h.o3 X e.symm; exact this.1 rfl) (fun e => h.o1.1 e.symm)) (fun i hi => hblk i (h.tr.row.lt i hi).2 (fun e => (h.o3 i e.symm).2 hi.symm) (fun e => h.o1.2 (by rw [← e]; exact hi.symm))),
    ⟨?_, ?_, ?_, h.tk.ne, ?_, ?_⟩, h.told, h.o1, h.o2, fun q hq => ?_, ?_, fun i hi => h.fresh i (Nat.le_trans mv.size hi)⟩, mv⟩
  · rw [heap_setCell_same _ _ _ _ _ _ hT]
    rfl
  · rw [hblk R hRl (fun e => h.tk.nr e.symm) h.tk.ne]
    exact h.tk.regs
  · show World.ownsRow _ _ _ _ _ (s.wts ++ [x]).length _
    rw [List.length_append, wcells_app]
    refine Gm.ownsKeep (xs := wcells s.wts ++ wcells [x]) ?_ (fun i hi => hk i (fun e => hgT ?_))
    · exact hown
    · have : some g = some i := hi
      injection this with this
      omega
  · intro e
    have : some g = some T := e
    injection this with this
    exact hgT this
  · intro e
    have : some g = some R := e
    injection this with this
    exact hgR this
  · have : some g = some q := hq
    injection this with this
    subst this
    exact hog
  · exact h.args.mv ⟨mv.os, mv.tape, mv.output, mv.size, fun i hi ho => mv.block i hi ho.1, fun i hi ho => ⟨mv.keep i hi ho.1, ho.2⟩⟩
/-- append(l, c) of a child, at a step of a region that draws. -/
theorem wpush_step {ops : Array Oper} {oo : Oper} {a : Act} {U : World} {K : Act → World → Prop} {Q : Exit → Act → World → Prop} {E : Prop} {T1 : TypeId} {n b : Nat} {v : Value} {xs : List Value}
    (hrow : U.ownsRow 0 246 3 v n xs) (hgd : oo.guard = none) (s x : Operand)
    (hop : oo.op = .call { callee := .builtin .append, args := #[s, x], argTypes := #[164, 164] }) (hs : a.eval s = v) (hx : a.eval x = .slice (some ⟨b, 0, none⟩) 1 1) (m : Int × Res)
    (hb : U.heap[b]? = some (.cells #[.int .i64 m.2.val, .int .i64 m.2.err, .int .i64 m.1] T1 (0, 0))) (hn : n ≤ 100000)
    (h : ∀ g cap w', w'.ownsRow 0 246 3 (.slice (some ⟨g, 0, none⟩) (n + 1) cap) (n + 1) (xs ++ wc1 m) → U.grownBy w' v.ownBlock → (v.ownBlock = some g ∨ g = U.heap.size) → K (a.put oo.dst (.slice (some ⟨g, 0, none⟩) (n + 1) cap)) w') :
    if Region.wanted oo (yielded ops a.tmps) = true then Oper.wp Tryz.prog oo a U K Q else E := by
  obtain ⟨i, hi, hz⟩ := Option.map_eq_some_iff.1 child_info
  simp only [Prod.mk.injEq] at hz
  obtain ⟨z1, z2, z3⟩ := hz
  refine step_append_lies _ hgd s x 164 hop 0 246 i (.agg #[.int .i64 0, .int .i64 0, .int .i64 0]) 3 24 Tryz.underlying164 hi z1 z2 z3 rfl (by decide) v n xs hs hrow ⟨b, 0, none⟩ 1 1 (wc1 m) hx rfl
    (fun j u hu => World.news_of_block hb j u hu) (by unfold wc1; simp [Value.oneCell']) (by decide) (by unfold maxLen; omega) (by omega) (Nat.zero_le _) U.heap.size rfl ?_
  intro g cap w' h1 h2 h3 _
  exact h g cap w' h1 h2 h3
theorem cell_alloc {w : World} {a : Addr} {v : Value} (o : Obj) (h : w.cell? a = some v) : (w.alloc o).cell? a = some v :=
  (World.cell?_of_block (w := w) (Below.heap_alloc _ _ _ (World.block_lt_of_cell? w a h))).trans h
theorem cell3_alloc {w : World} {a b c : Addr} {x y z : Value} (o : Obj) (h : w.cell? a = some x ∧ w.cell? b = some y ∧ w.cell? c = some z) : (w.alloc o).cell? a = some x ∧ (w.alloc o).cell? b = some y ∧ (w.alloc o).cell? c = some z :=
  ⟨cell_alloc o h.1, cell_alloc o h.2.1, cell_alloc o h.2.2⟩
theorem cell_below {w w' : World} {a : Addr} {v : Value} (hb : Below w.heap.size w w') (h : w.cell? a = some v) : w'.cell? a = some v := (hb.cell (World.block_lt_of_cell? w a h)).trans h
theorem cell3_below {w w' : World} {a b c : Addr} {x y z : Value} (hb : Below w.heap.size w w') (h : w.cell? a = some x ∧ w.cell? b = some y ∧ w.cell? c = some z) : w'.cell? a = some x ∧ w'.cell? b = some y ∧ w'.cell? c = some z :=
  ⟨cell_below hb h.1, cell_below hb h.2.1, cell_below hb h.2.2⟩
theorem cell3_set2 {w : World} {a b c : Addr} {x y z : Value} (Q : Nat) (u0 u1 : Value) (ha : a.block ≠ Q) (hb : b.block ≠ Q) (hc : c.block ≠ Q) (h : w.cell? a = some x ∧ w.cell? b = some y ∧ w.cell? c = some z) :
    ((w.setCell ⟨Q, 0, none⟩ u0).setCell ⟨Q, 1, none⟩ u1).cell? a = some x ∧ ((w.setCell ⟨Q, 0, none⟩ u0).setCell ⟨Q, 1, none⟩ u1).cell? b = some y ∧ ((w.setCell ⟨Q, 0, none⟩ u0).setCell ⟨Q, 1, none⟩ u1).cell? c = some z := by
  have hk : ∀ i, i ≠ Q → ((w.setCell ⟨Q, 0, none⟩ u0).setCell ⟨Q, 1, none⟩ u1).heap[i]? = w.heap[i]? := fun i hi => (Below.heap_setCell _ _ _ _ hi).trans (Below.heap_setCell _ _ _ _ hi)
  exact ⟨(World.cell?_of_block (w := w) (hk _ ha)).trans h.1, (World.cell?_of_block (w := w) (hk _ hb)).trans h.2.1, (World.cell?_of_block (w := w) (hk _ hc)).trans h.2.2⟩
theorem set2_heap {w : World} {Q : Nat} {a b x y : Value} {T : TypeId} (h : w.heap[Q]? = some (.cells #[a, b] T (0, 0))) : ((w.setCell ⟨Q, 0, none⟩ x).setCell ⟨Q, 1, none⟩ y).heap[Q]? = some (.cells #[x, y] T (0, 0)) := by
  rw [heap_setCell_same _ _ _ _ _ _ (heap_setCell_same _ _ _ _ _ _ h)]
  rfl
/-- What a fork's own call of run leaves: begun at U, the task as at W; q0 is a block that is let alone. -/
structure SubP (p : List Cd.FnV) (K : Nat → Prop) (X : Nat) (fs mk v : Value) (ds : List Dm) (t : Tsk) (W U : World) (q0 : Nat) (w' : World) (v' : Value) (ms : List Dm) : Prop where
  keep : ∀ q, W.heap.size ≤ q → q < U.heap.size → w'.heap[q]? = U.heap[q]? ∧ TOff X v' q
  size : U.heap.size ≤ w'.heap.size
  tr : Tr X fs mk v' (ds ++ ms) w'
  told : ms.map Dm.d = (doT p t).2
  args : Args (fun i => TOff X v' i ∧ (K i ∧ i ≠ q0)) (ds ++ ms) w'
  mv : Gm.Mvg (TOff X v) (TOff X v') W w'
/-- The state behind a fork's call, ahead of the child's being noted. -/
structure MidP (K : Nat → Prop) (X T R : Nat) (fs mk v u : Value) (hd ds : List Dm) (t : Tsk) (A : Option Addr) (c : Nat) (s : St) (l : List Cd.Fm) (P : Option Addr) (M : Nat) (Z : Nat) (o : Cd.OpV) (r : Res) (W : World) (Q : Nat) (w' : World) : Prop where
  now : ∃ (v' : Value) (ms : List Dm), NowE K X T R fs mk v' u hd (ds ++ ms) t A c s w' ∧ Gm.Mvg (NOff X T R v u) (NOff X T R v' u) W w' ∧ NOff X T R v' u Q
  res : w'.heap[Q]? = some (.cells #[.int .i64 r.val, .int .i64 r.err] 30 (0, 0))
  op : Cd.OB w' Z o
theorem SubP.mid {p : List Cd.FnV} {K : Nat → Prop} {X T R : Nat} {fs mk v u : Value} {hd ds : List Dm} {t k : Tsk} {A : Option Addr} {c : Nat} {s s2 : St} {l : List Cd.Fm} {P : Option Addr} {M Z : Nat} {o : Cd.OpV} {W U w5 wx : World} {q0 Q : Nat} {v' : Value} {ms : List Dm}
    (h : SubP p (fun i => KOff T R u i ∧ K i) X fs mk v (hd ++ ds) k W U q0 w5 v' ms) (hN : NowE K X T R fs mk v u hd ds t A c s W) (hZ : Cd.OB W Z o) (hZo : NOff X T R v u Z) (hs : s2 = { s with done := s.done ++ (doT p k).2 })
    (hQ : (Q = q0 ∧ W.heap.size ≤ Q ∧ Q < U.heap.size) ∨ w5.heap.size ≤ Q) (hWU : W.heap.size ≤ U.heap.size)
    (hb : ∀ i, i < w5.heap.size → i ≠ Q → wx.heap[i]? = w5.heap[i]?) (hsz : w5.heap.size ≤ wx.heap.size) (h1 : wx.os = w5.os) (h2 : wx.tape = w5.tape) (h3 : wx.output = w5.output)
    (hr : wx.heap[Q]? = some (.cells #[.int .i64 (doT p k).1.val, .int .i64 (doT p k).1.err] 30 (0, 0))) :
    MidP K X T R fs mk v u hd ds t A c s2 l P M Z o (doT p k).1 W Q wx := by
  have hWs : W.heap.size ≤ Q := by
    rcases hQ with hQ | hQ
    · exact hQ.2.1
    · exact Nat.le_trans hWU (Nat.le_trans h.size hQ)
  have hlt : ∀ i, i < W.heap.size → i < w5.heap.size ∧ i ≠ Q := fun i hi => ⟨Nat.lt_of_lt_of_le hi (Nat.le_trans hWU h.size), by omega⟩
  have hQo : TOff X v' Q := by
    rcases hQ with hQ | hQ
    · exact (h.keep Q hQ.2.1 hQ.2.2).2
    · exact h.tr.fresh hQ
  have hKQ : KOff T R u Q := ⟨fun e => by have := hN.tk.ltT; omega, fun e => by have := hN.tk.ltR; omega, fun e => by have := (hN.tk.row.lt Q e.symm).2; omega⟩
  have mv5 : Gm.Mvg (fun i => TOff X v' i ∧ (((KOff T R u i ∧ K i) ∧ i ≠ q0))) (fun i => NOff X T R v' u i ∧ K i) w5 wx := by
    refine ⟨h1, h2, h3, hsz, fun i hi ho => hb i hi (fun e => ?_), fun i hi ho => ⟨⟨ho.1, ho.2.1.1⟩, ho.2.1.2⟩⟩
    rcases hQ with hQ | hQ
    · exact ho.2.2 (by rw [e, hQ.1])
    · omega
  have mvW : Gm.Mvg (NOff X T R v u) (NOff X T R v' u) W wx := by
    refine ⟨h1.trans h.mv.os, h2.trans h.mv.tape, h3.trans h.mv.output, Nat.le_trans h.mv.size hsz, fun i hi ho => ?_, fun i hi ho => ⟨h.mv.keep i hi ho.1, ho.2⟩⟩
    rw [hb i (hlt i hi).1 (hlt i hi).2]
    exact h.mv.block i hi ho.1
  have hkT : ∀ i, i < W.heap.size → TOff X v i → wx.heap[i]? = W.heap[i]? := fun i hi ho => (hb i (hlt i hi).1 (hlt i hi).2).trans (h.mv.block i hi ho)
  have hTl := hN.tk.ltT
  have hRl := hN.tk.ltR
  refine ⟨⟨v', ms, ⟨?_, ?_, ?_, h.mv.keep T hTl hN.o1, h.mv.keep R hRl hN.o2, fun g hg => h.mv.keep g (hN.tk.row.lt g hg).2 (hN.o3 g hg), ?_, fun i hi => hN.fresh i (Nat.le_trans mvW.size hi)⟩, mvW, hQo, hKQ⟩, hr, ?_⟩
  · rw [← List.append_assoc]
    exact h.tr.of (hb X h.tr.ltX (fun e => hQo.1 e.symm)) fun i hi => hb i (h.tr.row.lt i hi).2 (fun e => hQo.2 (by rw [← e]; exact hi.symm))
  · have hk := hN.tk.of (hkT T hTl hN.o1) (hkT R hRl hN.o2) (fun i hi => hkT i (hN.tk.row.lt i hi).2 (hN.o3 i hi))
    subst hs
    exact ⟨hk.obj, hk.regs, hk.row, hk.ne, hk.nu, hk.nr⟩
  · subst hs
    rw [List.map_append, hN.told, h.told]
  · rw [← List.append_assoc]
    exact h.args.mv mv5
  · exact (mvW.block Z hZ.lt hZo).trans hZ
theorem half (n : Nat) : (n : Int).tdiv 2 = ((n / 2 : Nat) : Int) := by
  rw [Int.tdiv_eq_ediv_of_nonneg (by omega)]
  omega
end Ev

set_option maxHeartbeats 4000000 in
set_option maxRecDepth 20000 in
theorem efork {K : Nat → Prop} {X T R : Nat} {v u : Value} {hd ds : List Ev.Dm} {t : Ev.Tsk} {A : Option Addr} {c : Nat} {s : Ev.St} {w : World} {l : List Cd.Fm} {P : Option Addr} {cp M N : Nat}
    (h : Ev.NowE K X T R (.slice P l.length cp) (.map (some M)) v u hd ds t A c s w) (hE : Ev.Env l P M (Ev.mF 7) (Ev.NOff X T R v u) w) (hg : ∀ f ∈ Cd.fns l, Ev.GoodF (Cd.fns l) f) (hpath : Br.may t.path = true) (hr : (s.regs.length : Int) = (Ev.fnOf (Cd.fns l) t).regs)
    (k : Nat) (d a b : Nat) (n : Nat) (g : Ev.GoodO (Cd.fns l) (Ev.fnOf (Cd.fns l) t) ⟨k, d, a, b, n⟩) (hk : k = 12) (hreg : s.regs.length ≤ 16) (hkids : s.kids ≤ 16) (hwts : s.wts.length ≤ s.kids) (hleft : s.left ≤ 65536) (hlen : hd.length + s.done.length + s.left + 1 ≤ 70000)
    (hC : Ev.RunC l P cp M N) (hN : s.left / 2 < N) :
    Calls Tryz.prog 127 #[.pointer (some ⟨X, 0, none⟩), .pointer (some ⟨T, 0, none⟩), .agg #[.int .u8 (k : Int), .int .i64 (d : Int), .int .i64 (a : Int), .int .i64 (b : Int), .int .i64 (n : Int)]] w
      (Ev.DoP K X T R (.slice P l.length cp) (.map (some M)) v u hd t A c (Ev.forkE t s) (if Ev.forkE t s = 0 then Ev.forkS (Cd.fns l) t s ⟨k, d, a, b, n⟩ else s) w) := by
  obtain ⟨U8, cu, hu8⟩ := Ev.own_slice h.tk.row
  subst hu8
  obtain ⟨V, hV⟩ : ∃ V, V = w.alloc (.cells #[.int .u8 (k : Int), .int .i64 (d : Int), .int .i64 (a : Int), .int .i64 (b : Int), .int .i64 (n : Int)] 72) := ⟨_, rfl⟩
  have hbV : Below w.heap.size w V := by rw [hV]; exact Cd.fn1 _ _ _
  have hZ : Cd.OB V w.heap.size ⟨k, d, a, b, n⟩ := by show V.heap[_]? = _; rw [hV]; exact heap_alloc_new w _
  have HN := Lib.hid (h.below hbV)
  have HM := Lib.hid (Gm.Mvg.of_below (off := Ev.NOff X T R v (.slice U8 s.wts.length cu)) hbV)
  have HE := Lib.hid (hE.mv HM.out)
  have HZ := Lib.hid hZ
  have HG := Lib.hid hg
  have HGO := Lib.hid g
  have HR := Lib.hid hr
  have HPA := Lib.hid hpath
  have HLE := Lib.hid hlen
  have HC := Lib.hid hC
  have HNN := Lib.hid hN
  have HZW : Hid (Ev.NOff X T R v (.slice U8 s.wts.length cu) w.heap.size) := h.lt _ (Nat.le_refl _)
  have HBO : Hid (s.kids ≤ 16 ∧ s.left ≤ 65536 ∧ s.wts.length ≤ s.kids ∧ s.regs.length ≤ 16 ∧ k = 12) := ⟨hkids, hleft, hwts, hreg, hk⟩
  have t7 : V.cell? ⟨T, 7, none⟩ = some (.int .i64 (s.kids : Int)) := HN.out.tk.cell 7
  have t0 : V.cell? ⟨T, 0, none⟩ = some (.string t.path) := HN.out.tk.cell 0
  clear h hE hg g hr hpath hlen hC hN hbV hZ hwts hreg hk
  obtain ⟨FE, hFE⟩ : ∃ x, x = Ev.forkE t s := ⟨_, rfl⟩
  rw [← hFE]
  obtain ⟨FS, hFS⟩ : ∃ x, x = (if FE = 0 then Ev.forkS (Cd.fns l) t s ⟨k, d, a, b, n⟩ else s) := ⟨_, rfl⟩
  rw [← hFS]
  have HFE := Lib.hid hFE
  have HFS := Lib.hid hFS
  clear hFE hFS
  go_enter Tryz.func127, Tryz.ntmps127
  go_upto_region 1 with fail
  rw [← hV]
  clear hV
  generalize w.heap.size = Z at HZ HZW ⊢
  by_cases h16 : 16 ≤ s.kids
  · have e16 : s.kids = 16 := by omega
    have e16i : (s.kids : Int) = 16 := by omega
    have e1 : FE = 132 := by rw [HFE.out]; unfold Ev.forkE; rw [if_pos h16]
    have e2 : FS = s := by rw [HFS.out, e1, if_neg (by decide)]
    have E1 := Lib.hid e1
    have E2 := Lib.hid e2
    rw [e16i] at t7
    clear h16 e16i hkids hleft e1 e2
    go_wp2_with fail
    go_ret
    exact ⟨by rw [E1.out]; rfl, _, _, _, _, HN.out, fun _ => E2.out.symm, by rw [E2.out], by rw [E2.out], HM.out⟩
  · have b16 : ((s.kids : Int) == 16) = false := by rw [beq_eq_false_iff_ne]; omega
    have hkw : IntKind.i64.wrap ((s.kids : Int) + 1) = (s.kids : Int) + 1 := by rw [IntKind.wrap_i64]; omega
    have hsz : t.path.size ≤ 12 := Br.may_size HPA.out
    have HK : Hid (∀ U, Calls Tryz.prog 138 #[.string t.path, .int .i64 ((s.kids : Int) + 1)] U fun e w' => e = .returned (.tuple #[.string (Br.kidT t.path ((s.kids : Int) + 1)), .bool (Br.kidOk t.path ((s.kids : Int) + 1))]) ∧ Below U.heap.size U w') := fun U => bKid t.path ((s.kids : Int) + 1) U (by omega) (by omega)
    obtain ⟨KT, hKT⟩ : ∃ x, x = Br.kidT t.path ((s.kids : Int) + 1) := ⟨_, rfl⟩
    rw [← hKT] at HK
    have HKT := Lib.hid hKT
    clear hsz hKT
    cases hko : Br.kidOk t.path ((s.kids : Int) + 1) with
    | false =>
      rw [hko] at HK
      have e1 : FE = 133 := by rw [HFE.out]; unfold Ev.forkE; rw [if_neg h16, if_pos hko]
      have e2 : FS = s := by rw [HFS.out, e1, if_neg (by decide)]
      have E1 := Lib.hid e1
      have E2 := Lib.hid e2
      clear hko h16 e1 e2
      go_upto_region 3 with fail
      go_region_held3 (fun w' => w'.cell? ⟨T, 0, none⟩ = some (.string t.path) ∧ w'.cell? ⟨T, 7, none⟩ = some (.int .i64 (s.kids : Int)))
        (first | exact ⟨t0, t7⟩ | assumption)
        (first
          | (with_reducible refine (HK.out _).mono ?_
             rintro e w' ⟨rfl, hb⟩
             have S2 : w'.cell? ⟨T, 0, none⟩ = some (.string t.path) ∧ w'.cell? ⟨T, 7, none⟩ = some (.int .i64 (s.kids : Int)) := ⟨(hb.cell (show T < V.drew.heap.size from HN.out.tk.ltT)).trans t0, (hb.cell (show T < V.drew.heap.size from HN.out.tk.ltT)).trans t7⟩))
      have HB := Lib.hid hb
      clear hb S2
      go_wp2_with fail
      go_ret
      exact ⟨by rw [E1.out]; rfl, _, _, _, _, HN.out.drew.below HB.out, fun _ => E2.out.symm, by rw [E2.out], by rw [E2.out], (Ev.mvg_drew HM.out).trans (Gm.Mvg.of_below HB.out)⟩
    | true =>
      rw [hko] at HK
      have e1 : FE = 0 := by rw [HFE.out]; unfold Ev.forkE; rw [if_neg h16, if_neg (by rw [hko]; decide)]
      have e2 : FS = Ev.forkS (Cd.fns l) t s ⟨k, d, a, b, n⟩ := by rw [HFS.out, if_pos e1]
      have E1 := Lib.hid e1
      have E2 := Lib.hid e2
      have HKO := Lib.hid hko
      clear hko h16 e1 e2
      go_upto_region 3 with fail
      go_region_held3 (fun w' => w'.cell? ⟨T, 0, none⟩ = some (.string t.path) ∧ w'.cell? ⟨T, 7, none⟩ = some (.int .i64 (s.kids : Int)))
        (first | exact ⟨t0, t7⟩ | assumption)
        (first
          | (with_reducible refine (HK.out _).mono ?_
             rintro e w1 ⟨rfl, hb⟩
             have S2 : w1.cell? ⟨T, 0, none⟩ = some (.string t.path) ∧ w1.cell? ⟨T, 7, none⟩ = some (.int .i64 (s.kids : Int)) := ⟨(hb.cell (show T < V.drew.heap.size from HN.out.tk.ltT)).trans t0, (hb.cell (show T < V.drew.heap.size from HN.out.tk.ltT)).trans t7⟩))
      have HM1 := Lib.hid ((Ev.mvg_drew HM.out).trans (Gm.Mvg.of_below hb))
      have HN1 := Lib.hid (HN.out.drew.below hb)
      have HE1 := Lib.hid (HE.out.mv ((Ev.mvg_drew (Gm.Mvg.refl _ _)).trans (Gm.Mvg.of_below hb)))
      have HZ1 : Hid (Cd.OB w1 Z ⟨k, d, a, b, n⟩) := (hb.block Z (show Z < V.drew.heap.size from HZ.out.lt)).trans HZ.out
      clear hb S2 t7 t0 HN HM HE HZ
      obtain ⟨F, hF⟩ : ∃ F, F = s.left / 2 := ⟨_, rfl⟩
      obtain ⟨L2, hL2⟩ : ∃ L2, L2 = s.left - F := ⟨_, rfl⟩
      have hq : (s.left : Int) / 2 = (F : Int) := by omega
      have hq2 : (s.left : Int) - (F : Int) = (L2 : Int) := by omega
      have z4 := HZ1.out.c4
      have t6 : w1.cell? ⟨T, 6, none⟩ = some (.int .i64 (s.left : Int)) := HN1.out.tk.cell 6
      have t7 : w1.cell? ⟨T, 7, none⟩ = some (.int .i64 (s.kids : Int)) := HN1.out.tk.cell 7
      have tf6 := HN1.out.tk.fro 6
      have tf7 := HN1.out.tk.fro 7
      have HF := Lib.hid hF
      have HL2 := Lib.hid hL2
      clear hF hL2
      simp only [] at z4
      go_upto_region 6 with fail
      go_region
      go_upto_region 9 with fail
      obtain ⟨W3, hW3⟩ : ∃ W, W = ((w1.setCell ⟨T, 7, none⟩ (.int .i64 ((s.kids : Int) + 1))).setCell ⟨T, 6, none⟩ (.int .i64 (L2 : Int))).drew := ⟨_, rfl⟩
      obtain ⟨g7, m7⟩ := HN1.out.setT { s with kids := s.kids + 1 } 7 (.int .i64 ((s.kids : Int) + 1)) rfl rfl rfl rfl
      obtain ⟨g6, m6⟩ := g7.setT { s with kids := s.kids + 1, left := L2 } 6 (.int .i64 (L2 : Int)) rfl rfl rfl rfl
      have hm3 : Gm.Mvg (Ev.NOff X T R v (.slice U8 s.wts.length cu)) (Ev.NOff X T R v (.slice U8 s.wts.length cu)) w1 W3 := by rw [hW3]; exact Ev.mvg_drew (m7.trans m6)
      have HN3 : Hid (Ev.NowE K X T R (.slice P l.length cp) (.map (some M)) v (.slice U8 s.wts.length cu) hd ds t A c { s with kids := s.kids + 1, left := L2 } W3) := by
        show Ev.NowE _ _ _ _ _ _ _ _ _ _ _ _ _ _ _
        rw [hW3]
        exact g6.drew
      have HM3 := Lib.hid (HM1.out.trans hm3)
      have HE3 := Lib.hid (HE1.out.mv hm3)
      have HZ3 : Hid (Cd.OB W3 Z ⟨k, d, a, b, n⟩) := (hm3.block Z HZ1.out.lt HZW.out).trans HZ1.out
      rw [← hW3]
      clear hW3 g7 m7 g6 m6 hm3 HM1 HN1 HE1 HZ1 t6 t7 tf6 tf7 z4 hq hq2 hkw
      obtain ⟨n', hn', hnl, harg⟩ := HGO.out.fork HBO.out.2.2.2.2
      obtain rfl : n' = n := by simp only [] at hn'; omega
      have hnl2 : n' < l.length := by rw [Cd.fns_len] at hnl; exact hnl
      have hfn : (Cd.fns l)[n'] = l[n'].f := List.getElem_map ..
      obtain ⟨an, han, hanr⟩ := (HG.out _ (List.getElem_mem hnl)).args
      rw [hfn] at han hanr
      have hargN : Ck.argN (Cd.fns l) ⟨k, d, a, b, n'⟩ = (an : Int) := by
        unfold Ck.argN
        simp only [Int.toNat_natCast]
        rw [List.getElem?_eq_getElem hnl, hfn]
        exact han
      rw [hargN, ← HR.out] at harg
      simp only [] at harg
      have haa : an = 0 ∨ a + an ≤ s.regs.length := by omega
      obtain ⟨d', a', b', e1', e2', e3', _, ha16, _⟩ := HGO.out.nat
      simp only [] at e2'
      have ha16' : a ≤ 16 := by omega
      have HKQ : Hid (Ev.kidP (Cd.fns l) t s ⟨k, d, a, b, n'⟩ = ⟨KT, n', Ev.regsOf s.regs a an, F⟩) := by
        show _ = _
        unfold Ev.kidP Ev.regsOf
        rw [hargN, HKT.out, HF.out]
        simp only [Int.toNat_natCast]
      have HTO : Hid (Ev.TOk (Cd.fns l) ⟨KT, n', Ev.regsOf s.regs a an, F⟩) := by
        show Ev.TOk _ _
        rw [← HKQ.out]
        exact Ev.kid_ok HG.out HR.out HGO.out HBO.out.2.2.2.2 HBO.out.2.1 HKO.out
      have HARGS : Hid (∀ U, Below W3.heap.size W3 U → Calls Tryz.prog 146 #[.pointer (some ⟨T, 0, none⟩), .int .i64 (a : Int), .int .i64 (an : Int)] U fun e w' => ∃ A2 c2, e = .returned (.slice A2 (Ev.regsOf s.regs a an).length c2) ∧ Lies w' w'.heap.size A2 (icells (Ev.regsOf s.regs a an)) ∧
          (Ev.regsOf s.regs a an ≠ [] → ∀ p, A2 = some p → U.heap.size ≤ p.block ∧ p.block < w'.heap.size) ∧ Below U.heap.size U w' ∧ Below W3.heap.size W3 w') := fun U hU => (eargs (HN3.out.tk.below hU) a an haa HBO.out.2.2.2.1 ha16').mono fun e w' ⟨A2, c2, h1, h2, h3, h4⟩ => by
        refine ⟨A2, c2, h1, h2, fun hn p hp => ⟨h3 hn p hp, ?_⟩, h4, hU.trans (h4.mono hU.size)⟩
        obtain ⟨ad, e, hb, _⟩ := h2 (by cases hx : Ev.regsOf s.regs a an with | nil => exact absurd hx hn | cons => simp [icells])
        rw [hp] at e
        cases e
        exact hb
      obtain ⟨rv, hrv⟩ : ∃ x, x = (Ev.doT (Cd.fns l) ⟨KT, n', Ev.regsOf s.regs a an, F⟩).1.val := ⟨_, rfl⟩
      obtain ⟨re, hre⟩ : ∃ x, x = (Ev.doT (Cd.fns l) ⟨KT, n', Ev.regsOf s.regs a an, F⟩).1.err := ⟨_, rfl⟩
      have HRUN : Hid (∀ U A2 c2 q0, Below W3.heap.size W3 U → Lies U U.heap.size A2 (icells (Ev.regsOf s.regs a an)) → (Ev.regsOf s.regs a an ≠ [] → ∀ p, A2 = some p → W3.heap.size ≤ p.block ∧ p.block ≠ q0) → (q0 = X ∨ W3.heap.size ≤ q0) → q0 < U.heap.size →
          Calls Tryz.prog 52 #[.pointer (some ⟨X, 0, none⟩), .agg #[.string KT, .int .i64 (n' : Int), .slice A2 (Ev.regsOf s.regs a an).length c2, .int .i64 (F : Int)]] U fun e w' => e = .returned (.agg #[.int .i64 rv, .int .i64 re]) ∧
            ∃ v' ms, Ev.SubP (Cd.fns l) (fun i => Ev.KOff T R (.slice U8 s.wts.length cu) i ∧ K i) X (.slice P l.length cp) (.map (some M)) v (hd ++ ds) ⟨KT, n', Ev.regsOf s.regs a an, F⟩ W3 U q0 w' v' ms) := fun U A2 c2 q0 hU hli hfr hq0 hqU => by
        have hN3 := HN3.out
        have hmU : ∀ off : Nat → Prop, Gm.Mvg off off W3 U := fun off => Gm.Mvg.of_below hU
        have hold : ∀ i, i < W3.heap.size → Ev.TOff X v i → i ≠ q0 := fun i hi ho e => by
          rcases hq0 with h | h
          · exact ho.1 (e.trans h)
          · omega
        have htr := hN3.tr.below hU
        refine (HC.out (fun i => (Ev.KOff T R (.slice U8 s.wts.length cu) i ∧ K i) ∧ i ≠ q0) X v (hd ++ ds) ⟨KT, n', Ev.regsOf s.regs a an, F⟩ A2 c2 U (by show F < N; rw [HF.out]; exact HNN.out) HTO.out htr ((HE3.out.imp (fun i _ ho => ho.1)).mv (hmU _)) ?_ ⟨hli, fun hn p hp => ?_⟩ (fun i hi => ⟨⟨(hN3.lt i (Nat.le_trans hU.size hi)).2, hN3.fresh i (Nat.le_trans hU.size hi)⟩, by omega⟩) ?_).mono ?_
        · exact (hN3.args.imp (off' := fun i => Ev.TOff X v i ∧ (Ev.KOff T R (.slice U8 s.wts.length cu) i ∧ K i) ∧ i ≠ q0) (fun i hi ho => ⟨ho.1.1, ⟨ho.1.2, ho.2⟩, hold i hi ho.1.1⟩)).mv (hmU _)
        · have h1 := hfr hn p hp
          exact ⟨hN3.tr.fresh h1.1, ⟨(hN3.lt _ h1.1).2, hN3.fresh _ h1.1⟩, h1.2⟩
        · have h1 : ds.length = s.done.length := by have := congrArg List.length hN3.told; simpa using this
          have h2 := HLE.out
          have h3 := HF.out
          rw [List.length_append]
          show hd.length + ds.length + F + 1 ≤ 70000
          omega
        · rintro e w' ⟨he, v', ms, h1, h2, h3, h4⟩
          exact ⟨by rw [he, hrv, hre], v', ms, fun q hq1 hq2 => ⟨h4.block q hq2 (hN3.tr.fresh hq1), h4.keep q hq2 (hN3.tr.fresh hq1)⟩, h4.size, h1, h2, h3, (hmU _).trans h4⟩
      obtain ⟨dn, hdn⟩ : ∃ x, x = (Ev.doT (Cd.fns l) ⟨KT, n', Ev.regsOf s.regs a an, F⟩).2 := ⟨_, rfl⟩
      have HDN := Lib.hid hdn
      have HRV := Lib.hid hrv
      have HRE := Lib.hid hre
      clear hrv hre hdn
      obtain ⟨lo, hlo, hpr, hpo⟩ := HE3.out.prog
      obtain ⟨ad, rfl, hadl, c0, -, -⟩ := Cd.fn_at hpr.fs hnl2
      rw [han] at c0
      have HAD : Hid ((ad.add (n' * 3)).block < W3.heap.size ∧ Ev.TOff X v (ad.add (n' * 3)).block) := by
        show _ ∧ _
        rw [Lies.add_block]
        exact ⟨Nat.lt_of_lt_of_le hadl hlo, (hpo _ hadl).1⟩
      have z2 := HZ3.out.c2
      have x0 := HN3.out.tr.x0
      simp only [] at z2
      have n0 : (0 : Int) ≤ (n' : Int) := by omega
      have n1 : (n' : Int) < (l.length : Int) := by omega
      clear hn' hnl harg hnl2 hfn han hanr hargN haa e1' e2' e3' ha16 ha16' hpr hpo hadl hlo
      have S3 : W3.cell? ⟨Z, 2, none⟩ = some (.int .i64 (a : Int)) ∧ W3.cell? ⟨X, 0, none⟩ = some (.slice (some ad) l.length cp) ∧ W3.cell? (ad.add (n' * 3)) = some (.int .i64 (an : Int)) := ⟨z2, x0, c0⟩
      have HS : Hid (∀ w5 v' ms U q0, Ev.SubP (Cd.fns l) (fun i => Ev.KOff T R (.slice U8 s.wts.length cu) i ∧ K i) X (.slice (some ad) l.length cp) (.map (some M)) v (hd ++ ds) ⟨KT, n', Ev.regsOf s.regs a an, F⟩ W3 U q0 w5 v' ms → w5.cell? ⟨Z, 2, none⟩ = some (.int .i64 (a : Int)) ∧ w5.cell? ⟨X, 0, none⟩ = some (.slice (some ad) l.length cp) ∧ w5.cell? (ad.add (n' * 3)) = some (.int .i64 (an : Int))) := fun w5 v' ms U q0 hs =>
        ⟨(World.cell?_of_block (w := W3) (hs.mv.block Z HZ3.out.lt HZW.out.1)).trans z2, hs.tr.x0, (World.cell?_of_block (w := W3) (hs.mv.block (ad.add (n' * 3)).block HAD.out.1 HAD.out.2)).trans c0⟩
      have HXL : Hid (X < W3.heap.size) := HN3.out.tr.ltX
      have HLT : Hid (Z < W3.heap.size ∧ X < W3.heap.size ∧ (ad.add (n' * 3)).block < W3.heap.size) := ⟨HZ3.out.lt, HXL.out, HAD.out.1⟩
      clear z2 x0 c0
      go_cut [11] (fun s11 wx => ∃ Q, s11 = .pointer (some ⟨Q, 0, none⟩) ∧ Hid (Ev.MidP K X T R (.slice (some ad) l.length cp) (.map (some M)) v (.slice U8 s.wts.length cu) hd ds t A c { s with kids := s.kids + 1, left := L2, done := s.done ++ dn } l (some ad) M Z ⟨k, d, a, b, n'⟩ (Ev.doT (Cd.fns l) ⟨KT, n', Ev.regsOf s.regs a an, F⟩).1 W3 Q wx))
      case first =>
        go_region_held3 (fun w' => w'.cell? ⟨Z, 2, none⟩ = some (.int .i64 (a : Int)) ∧ w'.cell? ⟨X, 0, none⟩ = some (.slice (some ad) l.length cp) ∧ w'.cell? (ad.add (n' * 3)) = some (.int .i64 (an : Int)))
          (first
            | exact S3 | assumption | exact Ev.cell3_alloc _ S3 | exact Ev.cell3_alloc _ S4 | exact Ev.cell3_alloc _ S5
            | exact Ev.cell3_set2 W3.heap.size _ _ (Nat.ne_of_lt HLT.out.1) (Nat.ne_of_lt HLT.out.2.1) (Nat.ne_of_lt HLT.out.2.2) S5
            | exact Ev.cell3_set2 w4.heap.size _ _ (Nat.ne_of_lt (Nat.lt_of_lt_of_le HLT.out.1 hb34.size)) (Nat.ne_of_lt (Nat.lt_of_lt_of_le HLT.out.2.1 hb34.size)) (Nat.ne_of_lt (Nat.lt_of_lt_of_le HLT.out.2.2 hb34.size)) S5)
          (first
            | (with_reducible refine (HARGS.out _ (by first | exact (Below.refl _ _).drew | exact (Below.refl _ _).drew.alloc (Nat.le_refl _) _ | exact ((Below.refl _ _).alloc (Nat.le_refl _) _).drew)).mono ?_
               rintro e w4 ⟨A2, c2, rfl, hli, hfr, hb4, hb34⟩
               have S4 : w4.cell? ⟨Z, 2, none⟩ = some (.int .i64 (a : Int)) ∧ w4.cell? ⟨X, 0, none⟩ = some (.slice (some ad) l.length cp) ∧ w4.cell? (ad.add (n' * 3)) = some (.int .i64 (an : Int)) := Ev.cell3_below hb34 S3
               have hfr3 : Ev.regsOf s.regs a an ≠ [] → ∀ p, A2 = some p → W3.heap.size ≤ p.block := fun hn p hp => Nat.le_trans (by first | exact Nat.le_refl _ | simp) (hfr hn p hp).1
               try have hQ4 : w4.heap[W3.heap.size]? = some (.cells #[.int .i64 0, .int .i64 0] 30 (0, 0)) := (hb4.block W3.heap.size (by simp)).trans (heap_alloc_new _ _))
            | (with_reducible refine (HRUN.out _ _ _ W3.heap.size hb34 hli (fun hn p hp => ⟨Nat.le_of_lt (Nat.lt_of_lt_of_le (by simp) (hfr hn p hp).1), Nat.ne_of_gt (Nat.lt_of_lt_of_le (by simp) (hfr hn p hp).1)⟩) (.inr (Nat.le_refl _)) (Nat.lt_of_lt_of_le (by simp) hb4.size)).mono ?_
               rintro e w5 ⟨rfl, v', ms, hsub⟩
               have S5 := HS.out _ _ _ _ _ hsub
               have hQ5 := (hsub.keep _ (Nat.le_refl _) (Nat.lt_of_lt_of_le (by simp) hb4.size)).1.trans hQ4
               have q0 : w5.cell? ⟨W3.heap.size, 0, none⟩ = some (.int .i64 0) := cell_of_row _ _ 0 _ _ _ hQ5
               have q1 : w5.cell? ⟨W3.heap.size, 1, none⟩ = some (.int .i64 0) := cell_of_row _ _ 1 _ _ _ hQ5
               have qf0 := frozen_of_row _ _ 0 _ _ hQ5
               have qf1 := frozen_of_row _ _ 1 _ _ hQ5)
            | (with_reducible refine (HRUN.out _ _ _ w4.heap.size (hb34.alloc hb34.size _) ((hli.below ((Below.refl _ _).alloc (Nat.le_refl _) _)).mono (by simp)) (fun hn p hp => ⟨hfr3 hn p hp, Nat.ne_of_lt (hfr hn p hp).2⟩) (.inr hb34.size) (by simp)).mono ?_
               rintro e w5 ⟨rfl, v', ms, hsub⟩
               have S5 := HS.out _ _ _ _ _ hsub
               have hQ5 := (hsub.keep _ hb34.size (by simp)).1.trans (heap_alloc_new _ _)
               have q0 : w5.cell? ⟨w4.heap.size, 0, none⟩ = some (.int .i64 0) := cell_of_row _ _ 0 _ _ _ hQ5
               have q1 : w5.cell? ⟨w4.heap.size, 1, none⟩ = some (.int .i64 0) := cell_of_row _ _ 1 _ _ _ hQ5
               have qf0 := frozen_of_row _ _ 0 _ _ hQ5
               have qf1 := frozen_of_row _ _ 1 _ _ hQ5)
            | (with_reducible refine (HRUN.out _ _ _ X hb34 hli (fun hn p hp => ⟨hfr3 hn p hp, Nat.ne_of_gt (Nat.lt_of_lt_of_le HXL.out (hfr3 hn p hp))⟩) (.inl rfl) (Nat.lt_of_lt_of_le HXL.out hb34.size)).mono ?_
               rintro e w5 ⟨rfl, v', ms, hsub⟩
               have S5 := HS.out _ _ _ _ _ hsub))
        all_goals
          go_wp2_with fail
          go_meet
          case rel =>
            first
              | exact ⟨W3.heap.size, rfl, hsub.mid HN3.out HZ3.out HZW.out (by rw [HDN.out]) (.inl ⟨rfl, Nat.le_refl _, Nat.lt_of_lt_of_le (by simp) hb4.size⟩) hb34.size (fun i _ hne => (Below.heap_setCell _ _ _ _ hne).trans (Below.heap_setCell _ _ _ _ hne)) (by simp [World.setCell]) rfl rfl rfl (by rw [← HRV.out, ← HRE.out]; exact Ev.set2_heap hQ5)⟩
              | exact ⟨w4.heap.size, rfl, hsub.mid HN3.out HZ3.out HZW.out (by rw [HDN.out]) (.inl ⟨rfl, hb34.size, by simp⟩) (hb34.alloc hb34.size (.cells #[.int .i64 0, .int .i64 0] 30)).size (fun i _ hne => (Below.heap_setCell _ _ _ _ hne).trans (Below.heap_setCell _ _ _ _ hne)) (by simp [World.setCell]) rfl rfl rfl (by rw [← HRV.out, ← HRE.out]; exact Ev.set2_heap hQ5)⟩
              | exact ⟨w5.heap.size, rfl, hsub.mid HN3.out HZ3.out HZW.out (by rw [HDN.out]) (.inr (Nat.le_refl _)) hb34.size (fun i hi _ => Below.heap_alloc _ _ _ hi) (by simp) rfl rfl rfl (by rw [← HRV.out, ← HRE.out]; exact heap_alloc_new _ _)⟩
      case rest =>
        rename World => wx
        obtain ⟨Q, rfl, HX⟩ := hcut
        obtain ⟨⟨v', ms, hNx, hMx, hQo⟩, hres, hop⟩ := HX.out
        rw [← HRV.out, ← HRE.out] at hres
        clear HX HRUN HARGS HS S3
        have c8 : wx.cell? ⟨T, 8, none⟩ = some (.slice U8 s.wts.length cu) := hNx.tk.cell 8
        have q0 : wx.cell? ⟨Q, 0, none⟩ = some (.int .i64 rv) := cell_of_row _ _ 0 _ _ _ hres
        have q1 : wx.cell? ⟨Q, 1, none⟩ = some (.int .i64 re) := cell_of_row _ _ 1 _ _ _ hres
        have z1 := hop.c1
        simp only [] at z1
        have HU : Hid (Ev.NowE K X T R (.slice (some ad) l.length cp) (.map (some M)) v' (.slice U8 s.wts.length cu) hd (ds ++ ms) t A c { s with kids := s.kids + 1, left := L2, done := s.done ++ dn } (wx.alloc (.cells #[.int .i64 rv, .int .i64 re, .int .i64 (d : Int)] 246)).drew) := (hNx.below (Cd.fn1 _ _ _)).drew
        have HBL : Hid ((wx.alloc (.cells #[.int .i64 rv, .int .i64 re, .int .i64 (d : Int)] 246)).drew.heap[wx.heap.size]? = some (.cells #[.int .i64 rv, .int .i64 re, .int .i64 (d : Int)] 246 (0, 0))) := heap_alloc_new wx _
        have HMU : Hid (Gm.Mvg (Ev.NOff X T R v (.slice U8 s.wts.length cu)) (Ev.NOff X T R v' (.slice U8 s.wts.length cu)) w (wx.alloc (.cells #[.int .i64 rv, .int .i64 re, .int .i64 (d : Int)] 246)).drew) := (HM3.out.trans hMx).trans (Gm.Mvg.of_below (Cd.fn1 _ _ _).drew)
        have hw100 : s.wts.length ≤ 100000 := by have := HBO.out; omega
        have e8 : (wx.alloc (.cells #[.int .i64 rv, .int .i64 re, .int .i64 (d : Int)] 246)).cell? ⟨T, 8, none⟩ = some (.slice U8 s.wts.length cu) := Ev.cell_alloc _ c8
        have HFIN : Hid (∀ g cap w6, w6.ownsRow 0 246 3 (.slice (some ⟨g, 0, none⟩) (s.wts.length + 1) cap) (s.wts.length + 1) (Ev.wcells s.wts ++ Ev.wc1 ((d : Int), ⟨rv, re⟩)) → (wx.alloc (.cells #[.int .i64 rv, .int .i64 re, .int .i64 (d : Int)] 246)).drew.grownBy w6 (Value.slice U8 s.wts.length cu).ownBlock →
            ((Value.slice U8 s.wts.length cu).ownBlock = some g ∨ g = (wx.alloc (.cells #[.int .i64 rv, .int .i64 re, .int .i64 (d : Int)] 246)).drew.heap.size) →
            Ev.DoP K X T R (.slice (some ad) l.length cp) (.map (some M)) v (.slice U8 s.wts.length cu) hd t A c FE FS w (.returned (.int .i64 0)) (w6.setCell ⟨T, 8, none⟩ (.slice (some ⟨g, 0, none⟩) (s.wts.length + 1) cap))) := fun g cap w6 hown hgr hg => by
          obtain ⟨p1, p2⟩ := HU.out.pushW (x := ((d : Int), ⟨rv, re⟩)) hown hgr (by rcases hg with h | h; exact .inl h; exact .inr (by rw [h]; exact Nat.le_refl _))
          have hS : FS = { s with kids := s.kids + 1, left := L2, wts := s.wts ++ [((d : Int), ⟨rv, re⟩)], done := s.done ++ dn } := by
            rw [E2.out]
            unfold Ev.forkS
            rw [HKQ.out, HDN.out, HRV.out, HRE.out, HL2.out, HF.out]
          exact ⟨by rw [E1.out], _, _, _, _, p1, fun _ => hS.symm, by rw [hS], by rw [hS], HMU.out.trans p2⟩
        clear hNx hMx hQo hres hop HM3 HN3 HE3 HZ3
        go_upto_region 10 with fail
        go_region_law (first
          | (refine Ev.wpush_step (U := (wx.alloc (.cells #[.int .i64 rv, .int .i64 re, .int .i64 (d : Int)] 246)).drew) HU.out.tk.row (by rfl) _ _ (by rfl) (by rfl) (by rfl) ((d : Int), ⟨rv, re⟩) HBL.out hw100 ?_
             intro g cap w6 hown hgr hg
             have c86 : w6.cell? ⟨T, 8, none⟩ = some (.slice U8 s.wts.length cu) := (World.cell?_of_block (w := (wx.alloc (.cells #[.int .i64 rv, .int .i64 re, .int .i64 (d : Int)] 246)).drew) (hgr.block T HU.out.tk.ltT (fun e => HU.out.tk.nu e.symm))).trans e8
             have f86 : w6.frozen? ⟨T, 8, none⟩ = false := (World.frozen?_of_block (w := (wx.alloc (.cells #[.int .i64 rv, .int .i64 re, .int .i64 (d : Int)] 246)).drew) (hgr.block T HU.out.tk.ltT (fun e => HU.out.tk.nu e.symm))).trans (HU.out.tk.fro 8)))
        all_goals
          go_wp2_with fail
          go_ret
          exact HFIN.out _ _ _ hown hgr hg
end Go.Proofs.YtepnofklmdofmaaGreatDoor
