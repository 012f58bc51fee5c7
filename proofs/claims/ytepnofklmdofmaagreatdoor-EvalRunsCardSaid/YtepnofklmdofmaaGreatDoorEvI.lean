/-
  Layer 13: the contract of the tree's finish, given that of run.
-/
import Derived.Test.YtepnofklmdofmaaGreatDoorEvH
namespace Go.Proofs.YtepnofklmdofmaaGreatDoor
open Go.RowKit

namespace Ev
theorem act_len (p : List Cd.FnV) (t : Tsk) (s : St) (o : Cd.OpV) (h0 : s.left ≠ 0) : (actS p t (paid s) o).done.length + (actS p t (paid s) o).left ≤ s.done.length + s.left := by
  unfold actS
  split
  · split
    · have h := doT_len p (kidP p t (paid s) o)
      have hf : (kidP p t (paid s) o).fuel = (s.left - 1) / 2 := rfl
      rw [hf] at h
      show (s.done ++ _).length + (s.left - 1 - (s.left - 1) / 2) ≤ _
      rw [List.length_append]
      omega
    · show s.done.length + (s.left - 1) ≤ _
      omega
  · split
    · show s.done.length + (s.left - 1) ≤ _
      omega
    · unfold plS
      cases hp : plain (paid s) o with
      | none => show s.done.length + (s.left - 1) ≤ _; omega
      | some s2 =>
        obtain ⟨e1, _, _, e4⟩ := plain_left hp
        show s2.done.length + s2.left ≤ _
        rw [e1, e4]
        show s.done.length + (s.left - 1) ≤ _
        omega
/-- What finish leaves. -/
def FinP (K : Nat → Prop) (X T R : Nat) (fs mk v u : Value) (hd : List Dm) (t : Tsk) (A : Option Addr) (c : Nat) (RZ : Res × List Dn) (w : World) (e : Ending) (w' : World) : Prop :=
  e = .returned (.agg #[.int .i64 RZ.1.val, .int .i64 RZ.1.err]) ∧ ∃ (sx : St) (v' u' : Value) (ds' : List Dm), NowE K X T R fs mk v' u' hd ds' t A c sx w' ∧ RZ.2 = ⟨t, RZ.1, sx.kids⟩ :: sx.done ∧ Gm.Mvg (NOff X T R v u) (NOff X T R v' u') w w'
def leftW (T : Nat) (w : World) : Nat := match w.cell? ⟨T, 6, none⟩ with | some (.int _ n) => n.toNat | _ => 0
/-- The loop of finish. -/
structure LoopF (K : Nat → Prop) (X T R : Nat) (fs mk v u : Value) (hd : List Dm) (t : Tsk) (A : Option Addr) (c : Nat) (l : List Cd.Fm) (P : Option Addr) (M N Y : Nat) (RZ : Res × List Dn) (w : World) (s : St) (v' u' : Value) (ds' : List Dm) (wr : World) : Prop where
  now : NowE (fun i => K i ∧ i ≠ Y) X T R fs mk v' u' hd ds' t A c s wr
  ok : SOk (Cd.fns l) t s
  run : run (s.left + 1) (Cd.fns l) t s = RZ
  mv : Gm.Mvg (NOff X T R v u) (NOff X T R v' u') w wr
  env : Env l P M (mF 7) (NOff X T R v' u') wr
  len : hd.length + s.done.length + s.left ≤ 70000
  left : s.left ≤ N
  yo : NOff X T R v' u' Y
  res : wr.heap[Y]? = some (.cells #[.int .i64 0, .int .i64 0] 30 (0, 0))
theorem FinP.drew {K : Nat → Prop} {X T R : Nat} {fs mk v u : Value} {hd : List Dm} {t : Tsk} {A : Option Addr} {c : Nat} {RZ : Res × List Dn} {w : World} {e : Ending} {w' : World} (h : FinP K X T R fs mk v u hd t A c RZ w e w') : FinP K X T R fs mk v u hd t A c RZ w e w'.drew := by
  obtain ⟨h1, sx, v', u', ds', h2, h3, h4⟩ := h
  exact ⟨h1, sx, v', u', ds', h2.drew, h3, mvg_drew h4⟩
theorem leftW_eq {K : Nat → Prop} {X T R : Nat} {fs mk v u : Value} {hd ds : List Dm} {t : Tsk} {A : Option Addr} {c : Nat} {s : St} {w : World} (h : NowE K X T R fs mk v u hd ds t A c s w) : leftW T w = s.left := by
  have t6 : w.cell? ⟨T, 6, none⟩ = some (.int .i64 (s.left : Int)) := h.tk.cell 6
  unfold leftW
  rw [t6]
  simp
/-- The result is written. -/
theorem fin_of {K : Nat → Prop} {X T R : Nat} {fs mk v u v' u' : Value} {hd ds' : List Dm} {t : Tsk} {A : Option Addr} {c Y : Nat} {RZ : Res × List Dn} {w wr : World} {sx : St} {x y : Int}
    (h : NowE (fun i => K i ∧ i ≠ Y) X T R fs mk v' u' hd ds' t A c sx wr) (mv : Gm.Mvg (NOff X T R v u) (NOff X T R v' u') w wr) (hY : Y = w.heap.size) (hyo : NOff X T R v' u' Y) (he : RZ.2 = ⟨t, RZ.1, sx.kids⟩ :: sx.done) (h1 : RZ.1.val = x) (h2 : RZ.1.err = y) :
    FinP K X T R fs mk v u hd t A c RZ w (.returned (.agg #[.int .i64 x, .int .i64 y])) ((wr.setCell ⟨Y, 0, none⟩ (.int .i64 x)).setCell ⟨Y, 1, none⟩ (.int .i64 y)) := by
  have hk : ∀ i, i ≠ Y → ((wr.setCell ⟨Y, 0, none⟩ (.int .i64 x)).setCell ⟨Y, 1, none⟩ (.int .i64 y)).heap[i]? = wr.heap[i]? := fun i hi => (Below.heap_setCell _ _ _ _ hi).trans (Below.heap_setCell _ _ _ _ hi)
  have hsz : wr.heap.size ≤ ((wr.setCell ⟨Y, 0, none⟩ (.int .i64 x)).setCell ⟨Y, 1, none⟩ (.int .i64 y)).heap.size := by simp [World.setCell]
  refine ⟨by rw [h1, h2], sx, v', u', ds', ⟨h.tr.of (hk X (fun e => hyo.1.1 e.symm)) (fun i hi => hk i (fun e => hyo.1.2 (by rw [← e]; exact hi.symm))), h.tk.of (hk T (fun e => hyo.2.1 e.symm)) (hk R (fun e => hyo.2.2.1 e.symm)) (fun i hi => hk i (fun e => hyo.2.2.2 (by rw [← e]; exact hi.symm))), h.told, h.o1, h.o2, h.o3, ?_, fun i hi => (h.fresh i (Nat.le_trans hsz hi)).1⟩, he, ?_⟩
  · exact h.args.mv ⟨rfl, rfl, rfl, hsz, fun i _ ho => hk i ho.2.2, fun i _ ho => ⟨ho.1, ho.2.1⟩⟩
  · exact mvg_set (mvg_set mv (fun i hi _ => by omega) 0 _) (fun i hi _ => by omega) 1 _
theorem res_size : (Tryz.prog.info? 30).map (·.size) = some 2 := by kernel_rfl
end Ev

set_option maxHeartbeats 4000000 in
set_option maxRecDepth 20000 in
theorem efinish {K : Nat → Prop} {X T R : Nat} {v u : Value} {hd ds : List Ev.Dm} {t : Ev.Tsk} {A : Option Addr} {c : Nat} {s0 : Ev.St} {w : World} {l : List Cd.Fm} {P : Option Addr} {cp M N : Nat}
    (h : Ev.NowE K X T R (.slice P l.length cp) (.map (some M)) v u hd ds t A c s0 w) (hE : Ev.Env l P M (Ev.mF 7) (Ev.NOff X T R v u) w) (hg : ∀ f ∈ Cd.fns l, Ev.GoodF (Cd.fns l) f) (ht : Ev.TOk (Cd.fns l) t) (hs : Ev.SOk (Cd.fns l) t s0)
    (hlen : hd.length + s0.done.length + s0.left ≤ 70000) (hC : Ev.RunC l P cp M N) (hN : s0.left ≤ N) :
    Calls Tryz.prog 82 #[.pointer (some ⟨X, 0, none⟩), .pointer (some ⟨T, 0, none⟩)] w
      (Ev.FinP K X T R (.slice P l.length cp) (.map (some M)) v u hd t A c (Ev.run (s0.left + 1) (Cd.fns l) t s0) w) := by
  obtain ⟨RZ, hRZ⟩ : ∃ x, x = Ev.run (s0.left + 1) (Cd.fns l) t s0 := ⟨_, rfl⟩
  rw [← hRZ]
  obtain ⟨W, hW⟩ : ∃ W, W = w.alloc (.cells #[.int .i64 0, .int .i64 0] 30) := ⟨_, rfl⟩
  have hbW : Below w.heap.size w W := by rw [hW]; exact Cd.fn1 _ _ _
  have hY : W.heap[w.heap.size]? = some (.cells #[.int .i64 0, .int .i64 0] 30 (0, 0)) := by rw [hW]; exact heap_alloc_new w _
  have HL0 : Hid (Ev.LoopF K X T R (.slice P l.length cp) (.map (some M)) v u hd t A c l P M N w.heap.size RZ w s0 v u ds W) := by
    have hWs : W.heap.size = w.heap.size + 1 := by rw [hW]; simp
    have hk := h.below hbW
    have ho : Ev.Args (fun i => Ev.NOff X T R v u i ∧ K i ∧ i ≠ w.heap.size) (hd ++ ds) W := (h.args.imp (off' := fun i => Ev.NOff X T R v u i ∧ K i ∧ i ≠ w.heap.size) (fun i hi ho => ⟨ho.1, ho.2, by omega⟩)).mv (Gm.Mvg.of_below hbW)
    exact ⟨⟨hk.tr, hk.tk, hk.told, hk.o1, hk.o2, hk.o3, ho, fun i hi => ⟨hk.fresh i hi, by omega⟩⟩, hs, hRZ.symm, Gm.Mvg.of_below hbW, hE.mv (Gm.Mvg.of_below hbW), hlen, hN, h.lt _ (Nat.le_refl _), hY⟩
  obtain ⟨fi, hfi, hfl⟩ := ht.fn
  have hfl2 : fi < l.length := by rw [Cd.fns_len] at hfl; exact hfl
  have hfo : Ev.fnOf (Cd.fns l) t = l[fi].f := by
    unfold Ev.fnOf
    rw [hfi, Int.toNat_natCast, List.getElem?_eq_getElem hfl]
    exact List.getElem_map ..
  obtain ⟨ad, hP, hadl, -, -, c2⟩ := Cd.fn_at HL0.out.env.pr.fs hfl2
  subst hP
  have x0 := HL0.out.now.tr.x0
  have t1 : W.cell? ⟨T, 1, none⟩ = some (.int .i64 (fi : Int)) := by rw [← hfi]; exact HL0.out.now.tk.cell 1
  have HOS : Hid (∀ U, Cd.Prog U U.heap.size (some ad) l → ∀ j (hj : j < l[fi].f.ops.length), ∃ ao : Addr, l[fi].A = some ao ∧ ao.block < U.heap.size ∧ U.cell? (ao.add (j * 5)) = some (.int .u8 (l[fi].f.ops[j].k : Int)) ∧ U.cell? ⟨(ao.add (j * 5)).block, (ao.add (j * 5)).off + 1, none⟩ = some (.int .i64 l[fi].f.ops[j].d) ∧ U.cell? ⟨(ao.add (j * 5)).block, (ao.add (j * 5)).off + 2, none⟩ = some (.int .i64 l[fi].f.ops[j].a) ∧
      U.cell? ⟨(ao.add (j * 5)).block, (ao.add (j * 5)).off + 3, none⟩ = some (.int .i64 l[fi].f.ops[j].b) ∧ U.cell? ⟨(ao.add (j * 5)).block, (ao.add (j * 5)).off + 4, none⟩ = some (.int .i64 l[fi].f.ops[j].n)) := fun U hU j hj => Cd.op_at (hU.os _ (List.getElem_mem hfl2)) hj
  have HFO := Lib.hid hfo
  have HG := Lib.hid hg
  have HT := Lib.hid ht
  have HC := Lib.hid hC
  have f0 : (0 : Int) ≤ (fi : Int) := by omega
  have f1 : (fi : Int) < (l.length : Int) := by omega
  have hln : Hid (l[fi].f.ops.length ≤ 64) := by show _ ≤ 64; rw [← hfo]; exact (hg _ ht.mem).len
  generalize l[fi] = m at c2 HOS HFO hln
  obtain ⟨f, mA, mc⟩ := m
  dsimp only at c2 HOS HFO hln
  clear h hE hg ht hs hlen hC hN hRZ hbW hY hfi hfl hfl2 hfo hadl
  go_enter Tryz.func82, Tryz.ntmps82
  go_upto_region 1 with fail
  rw [← hW]
  clear hW
  obtain ⟨Y, hYe⟩ : ∃ Y, Y = w.heap.size := ⟨_, rfl⟩
  rw [← hYe] at HL0 ⊢
  have HYE := Lib.hid hYe
  clear hYe
  go_region
  go_wp2_with fail
  have HI : Hid ((Tryz.prog.info? 30).map (·.size) = some 2) := Ev.res_size
  clear x0 t1 c2 f0 f1
  go_loopw [] (fun wr => Hid (∃ s v' u' ds', Ev.LoopF K X T R (.slice (some ad) l.length cp) (.map (some M)) v u hd t A c l (some ad) M N Y RZ w s v' u' ds' wr)) (fun wr => Ev.leftW T wr)
  case atStart =>
    have h := HL0.out
    exact ⟨s0, v, u, ds, h.now.drew, h.ok, h.run, Ev.mvg_drew h.mv, h.env.drew, h.len, h.left, h.yo, h.res⟩
  case round =>
    obtain ⟨s, v', u', ds', hLp⟩ := hrel.out
    have HLp := Lib.hid hLp
    clear hrel HL0 hLp
    have t6 : wr.cell? ⟨T, 6, none⟩ = some (.int .i64 (s.left : Int)) := HLp.out.now.tk.cell 6
    by_cases h0 : s.left = 0
    · have e0 : (s.left : Int) = 0 := by omega
      rw [e0] at t6
      have y0 : wr.cell? ⟨Y, 0, none⟩ = some (.int .i64 0) := cell_of_row _ _ 0 _ _ _ HLp.out.res
      have y1 : wr.cell? ⟨Y, 1, none⟩ = some (.int .i64 0) := cell_of_row _ _ 1 _ _ _ HLp.out.res
      have yf0 := frozen_of_row _ _ 0 _ _ HLp.out.res
      have yf1 := frozen_of_row _ _ 1 _ _ HLp.out.res
      have HRN : Hid (RZ = Ev.fin t s ⟨0, 130⟩) := by show _ = _; rw [← HLp.out.run, Ev.run_end _ _ _ _ h0]
      have HFIN : Hid (Ev.FinP K X T R (.slice (some ad) l.length cp) (.map (some M)) v u hd t A c RZ w (.returned (.agg #[.int .i64 0, .int .i64 130])) ((wr.setCell ⟨Y, 0, none⟩ (.int .i64 0)).setCell ⟨Y, 1, none⟩ (.int .i64 130))) := Ev.fin_of HLp.out.now HLp.out.mv HYE.out HLp.out.yo (by rw [HRN.out]; rfl) (by rw [HRN.out]; rfl) (by rw [HRN.out]; rfl)
      have HRW := Lib.hid (Ev.set2_heap (x := .int .i64 0) (y := .int .i64 130) HLp.out.res)
      clear h0 e0
      go_wp2_with fail
      refine bodyPost_ret (v := .agg #[.int .i64 0, .int .i64 130]) (results_cell_row Tryz.results82 _ _ Y 30 #[.int .i64 0, .int .i64 130] (0, 0) _ rfl HRW.out Tryz.underlying30 rfl HI.out) rfl ?_
      exact HFIN.out
    · have hpos : (0 : Int) < (s.left : Int) := by omega
      have hj : s.at_ < f.ops.length := by have := HLp.out.ok.at_; rw [HFO.out] at this; exact this
      obtain ⟨ao, hao, -, c0, c1, c2, c3, c4⟩ := HOS.out wr HLp.out.env.pr s.at_ hj
      subst hao
      have HOP : Hid (Ev.opAt (Cd.fns l) t s = f.ops[s.at_]) := by show _ = _; unfold Ev.opAt; rw [HFO.out, List.getElem?_eq_getElem hj]; rfl
      generalize f.ops[s.at_] = o at c0 c1 c2 c3 c4 HOP
      have t5 : wr.cell? ⟨T, 5, none⟩ = some (.int .i64 (s.at_ : Int)) := HLp.out.now.tk.cell 5
      have j0 : (0 : Int) ≤ (s.at_ : Int) := by omega
      have j1 : (s.at_ : Int) < (f.ops.length : Int) := by omega
      have j2 : IntKind.i64.wrap ((s.at_ : Int) + 1) = (s.at_ : Int) + 1 := by rw [IntKind.wrap_i64]; have := hln.out; omega
      obtain ⟨U1, hU1⟩ : ∃ U, U = wr.alloc (.cells #[.int .u8 (o.k : Int), .int .i64 o.d, .int .i64 o.a, .int .i64 o.b, .int .i64 o.n] 72) := ⟨_, rfl⟩
      have hbU : Below wr.heap.size wr U1 := by rw [hU1]; exact Cd.fn1 _ _ _
      have hO : Cd.OB U1 wr.heap.size o := by show U1.heap[_]? = _; rw [hU1]; exact heap_alloc_new wr _
      have HOO : Hid (Ev.NOff X T R v' u' wr.heap.size) := HLp.out.now.lt _ (Nat.le_refl _)
      obtain ⟨L1, hL1⟩ : ∃ n : Nat, n = s.left - 1 := ⟨_, rfl⟩
      have l1 : IntKind.i64.wrap ((s.left : Int) - 1) = (L1 : Int) := by rw [IntKind.wrap_i64]; have := HLp.out.ok.left; omega
      have hn1 := HLp.out.now.below hbU
      obtain ⟨hn2, hm2⟩ := hn1.setT { s with left := L1 } 6 (.int .i64 (L1 : Int)) rfl rfl rfl rfl
      obtain ⟨hn3, hm3⟩ := hn2.setT { s with left := L1, at_ := s.at_ + 1 } 5 (.int .i64 ((s.at_ : Int) + 1)) rfl rfl rfl rfl
      obtain ⟨U3, hU3⟩ : ∃ U, U = (U1.setCell ⟨T, 6, none⟩ (.int .i64 (L1 : Int))).setCell ⟨T, 5, none⟩ (.int .i64 ((s.at_ : Int) + 1)) := ⟨_, rfl⟩
      rw [← hU3] at hn3 hm3
      have hm13 := (Gm.Mvg.of_below (off := Ev.NOff X T R v' u') hbU).trans (hm2.trans hm3)
      have hmO : Gm.Mvg (Ev.NOff X T R v' u') (Ev.NOff X T R v' u') U1 U3 := hm2.trans hm3
      have hpd : Ev.paid s = { s with left := L1, at_ := s.at_ + 1 } := by unfold Ev.paid; rw [hL1]
      rw [← hpd] at hn3
      have HN3 := Lib.hid hn3
      have HM3 := Lib.hid (HLp.out.mv.trans hm13)
      have HE3 := Lib.hid (HLp.out.env.mv hm13)
      have HO3 : Hid (Cd.OB U3 wr.heap.size o) := (hmO.block wr.heap.size hO.lt HOO.out).trans hO
      have HY3 : Hid (U3.heap[Y]? = some (.cells #[.int .i64 0, .int .i64 0] 30 (0, 0)) ∧ Ev.NOff X T R v' u' Y) := ⟨(hm13.block Y (Cd.ltH HLp.out.res) HLp.out.yo).trans HLp.out.res, HLp.out.yo⟩
      have HGO := Lib.hid (Ev.opAt_good HT.out HG.out HLp.out.ok)
      have h16 : s.regs.length ≤ 16 := by
        have h1 := HLp.out.ok.regs
        obtain ⟨n, h2, h3⟩ := (HG.out _ HT.out.mem).regs
        omega
      have HDO : Hid (Calls Tryz.prog 102 #[.pointer (some ⟨X, 0, none⟩), .pointer (some ⟨T, 0, none⟩), .agg #[.int .u8 (o.k : Int), .int .i64 o.d, .int .i64 o.a, .int .i64 o.b, .int .i64 o.n]] U3
          (Ev.DoP (fun i => K i ∧ i ≠ Y) X T R (.slice (some ad) l.length cp) (.map (some M)) v' u' hd t A c (Ev.actE t (Ev.paid s) (Ev.opAt (Cd.fns l) t s)) (Ev.actS (Cd.fns l) t (Ev.paid s) (Ev.opAt (Cd.fns l) t s)) U3)) := by
        have := edo HN3.out HE3.out HG.out HT.out.path HLp.out.ok.regs (Ev.opAt (Cd.fns l) t s) HGO.out.1 h16 HLp.out.ok.kids HLp.out.ok.wts HLp.out.ok.wreg (by have := HLp.out.ok.left; show s.left - 1 ≤ 65536; omega) (by have := HLp.out.len; show hd.length + s.done.length + (s.left - 1) + 1 ≤ 70000; omega) HC.out (by have := HLp.out.left; show (s.left - 1) / 2 < N; omega)
        rw [HOP.out] at this ⊢
        exact this
      have HACT := Lib.hid (Ev.run_act (Cd.fns l) s.left t s h0 (Nat.le_refl _))
      have HALN := Lib.hid (Ev.act_len (Cd.fns l) t s (Ev.opAt (Cd.fns l) t s) h0)
      have HAOK : Hid (Ev.actE t (Ev.paid s) (Ev.opAt (Cd.fns l) t s) = 0 → (Ev.opAt (Cd.fns l) t s).k ≠ 14 → Ev.SOk (Cd.fns l) t (Ev.actS (Cd.fns l) t (Ev.paid s) (Ev.opAt (Cd.fns l) t s)) ∧ (Ev.actS (Cd.fns l) t (Ev.paid s) (Ev.opAt (Cd.fns l) t s)).left ≤ s.left - 1) := fun h1 h2 => Ev.act_ok HT.out HG.out HLp.out.ok h1 h2
      have HRN := Lib.hid HLp.out.run
      have HLEN := Lib.hid HLp.out.len
      have HLL := Lib.hid HLp.out.left
      have HLW : Hid (Ev.leftW T wr = s.left) := Ev.leftW_eq HLp.out.now
      have HH0 := Lib.hid h0
      rw [HACT.out] at HRN
      clear HACT
      have t61 : U1.cell? ⟨T, 6, none⟩ = some (.int .i64 (s.left : Int)) := hn1.tk.cell 6
      have t51 : U1.cell? ⟨T, 5, none⟩ = some (.int .i64 (s.at_ : Int)) := hn1.tk.cell 5
      have tf6 := hn1.tk.fro 6
      have tf5 := hn1.tk.fro 5
      have HL1 := Lib.hid hL1
      clear hj hbU hO hn1 hn2 hm2 hn3 hm3 hm13 hmO hpd h16 h0 hL1
      go_upto_region 4 with fail
      rw [← hU1]
      clear hU1 t5 t6 c0 c1 c2 c3 c4
      generalize wr.heap.size = O at HO3 HOO ⊢
      go_upto_region 6 with fail
      rw [← hU3]
      clear hU3 t61 t51 tf6 tf5
      have HRL : Hid (o.k = 14 → (Ev.actS (Cd.fns l) t (Ev.paid s) (Ev.opAt (Cd.fns l) t s)).regs.length = s.regs.length) := fun e => by
        unfold Ev.actS
        rw [HOP.out, if_neg (by omega), if_pos (.inr e)]
        exact Ev.joined_len _ _
      have HSR : Hid ((s.regs.length : Int) = (Ev.fnOf (Cd.fns l) t).regs) := HLp.out.ok.regs
      rw [HOP.out] at HDO HALN HAOK HRN HGO HRL
      obtain ⟨FE, hFE⟩ : ∃ x, x = Ev.actE t (Ev.paid s) o := ⟨_, rfl⟩
      obtain ⟨FS, hFS⟩ : ∃ x, x = Ev.actS (Cd.fns l) t (Ev.paid s) o := ⟨_, rfl⟩
      rw [← hFE, ← hFS] at HDO HRN
      rw [← hFS] at HALN HRL
      rw [← hFE, ← hFS] at HAOK
      clear hFE hFS
      have z0 := HO3.out.c0
      have z1 := HO3.out.c1
      have z2 := HO3.out.c2
      have z3 := HO3.out.c3
      have z4 := HO3.out.c4
      clear hpos j0 j1 j2 l1
      go_wp2_with fail
      refine HDO.out.mono ?_
      rintro e w5 ⟨rfl, sx, v2, u2, ds2, hN, hz, hk, hd5, hm⟩
      have HN5 := Lib.hid hN
      have HZ5 := Lib.hid hz
      have HK5 := Lib.hid hk
      have HD5 := Lib.hid hd5
      have HM5 := Lib.hid (HM3.out.trans hm)
      have HE5 := Lib.hid (HE3.out.mv hm)
      have HY5 : Hid (w5.heap[Y]? = some (.cells #[.int .i64 0, .int .i64 0] 30 (0, 0)) ∧ Ev.NOff X T R v2 u2 Y) := ⟨(hm.block Y (Cd.ltH HY3.out.1) HY3.out.2).trans HY3.out.1, hm.keep Y (Cd.ltH HY3.out.1) HY3.out.2⟩
      have HO5 : Hid (Cd.OB w5 O o) := (hm.block O HO3.out.lt HOO.out).trans HO3.out
      clear hN hz hk hd5 hm z0 z1 z2 z3 z4 HDO HN3 HM3 HE3 HY3 HO3
      have y0 : w5.cell? ⟨Y, 0, none⟩ = some (.int .i64 0) := cell_of_row _ _ 0 _ _ _ HY5.out.1
      have y1 : w5.cell? ⟨Y, 1, none⟩ = some (.int .i64 0) := cell_of_row _ _ 1 _ _ _ HY5.out.1
      have yf0 := frozen_of_row _ _ 0 _ _ HY5.out.1
      have yf1 := frozen_of_row _ _ 1 _ _ HY5.out.1
      by_cases hE : FE = 0
      · subst hE
        obtain rfl := HZ5.out rfl
        have z0 := HO5.out.c0
        by_cases h14 : o.k = 14
        · have k14 : (o.k : Int) = 14 := by omega
          rw [k14] at z0
          have z2 := HO5.out.c2
          obtain ⟨d', a, b', ea, eb, ec, -⟩ := HGO.out.1.nat
          have ha1 := HGO.out.1.a (by rw [h14]; rfl) (by omega)
          rw [eb] at z2
          have hal : a < sx.regs.length := by
            have h1 := HRL.out h14
            have h2 := HSR.out
            omega
          have t4 : w5.cell? ⟨T, 4, none⟩ = some (.slice (some ⟨R, 0, none⟩) sx.regs.length sx.regs.length) := HN5.out.tk.cell 4
          have ra := HN5.out.tk.reg hal
          have a0 : (0 : Int) ≤ (a : Int) := by omega
          have a1 : (a : Int) < (sx.regs.length : Int) := by omega
          have HRZ : Hid (RZ = Ev.fin t sx ⟨sx.regs[a], 0⟩) := by
            have := HRN.out
            rw [if_neg (by simp), if_pos h14, eb, Ev.rgAt_nat hal] at this
            exact this.symm
          generalize sx.regs[a] = x at ra HRZ
          have HFIN : Hid (Ev.FinP K X T R (.slice (some ad) l.length cp) (.map (some M)) v u hd t A c RZ w (.returned (.agg #[.int .i64 x, .int .i64 0])) ((w5.setCell ⟨Y, 0, none⟩ (.int .i64 x)).setCell ⟨Y, 1, none⟩ (.int .i64 0))) := Ev.fin_of HN5.out HM5.out HYE.out HY5.out.2 (by rw [HRZ.out]; rfl) (by rw [HRZ.out]; rfl) (by rw [HRZ.out]; rfl)
          have HRW := Lib.hid (Ev.set2_heap (x := .int .i64 x) (y := .int .i64 0) HY5.out.1)
          clear ea ec ha1 hal HRL HSR HAOK HALN h14 eb
          go_wp2_with fail
          go_region
          go_wp2_with fail
          refine bodyPost_ret (v := .agg #[.int .i64 x, .int .i64 0]) (results_cell_row Tryz.results82 _ _ Y 30 #[.int .i64 x, .int .i64 0] (0, 0) _ rfl HRW.out Tryz.underlying30 rfl HI.out) rfl ?_
          exact HFIN.out.drew
        · have e14 : ((o.k : Int) == 14) = false := by rw [beq_eq_false_iff_ne]; omega
          have hq := HAOK.out rfl h14
          have HNX : Hid (Ev.LoopF K X T R (.slice (some ad) l.length cp) (.map (some M)) v u hd t A c l (some ad) M N Y RZ w sx v2 u2 ds2 w5) := by
            refine ⟨HN5.out, hq.1, ?_, HM5.out, HE5.out, ?_, ?_, HY5.out.2, HY5.out.1⟩
            · have h1 := HRN.out
              rw [if_neg (by simp), if_neg h14] at h1
              rw [← h1]
              have h2 := hq.2
              have h3 := HH0.out
              obtain ⟨m, hm⟩ : ∃ m, s.left = sx.left + 1 + m := ⟨s.left - (sx.left + 1), by omega⟩
              rw [hm]
              exact (Ev.run_more (Cd.fns l) (sx.left + 1) m t sx (Nat.lt_succ_self _)).symm
            · have h1 := HALN.out
              have h2 := HLEN.out
              omega
            · have h2 := hq.2
              have h3 := HLL.out
              omega
          have HLT : Hid (Ev.leftW T w5 < Ev.leftW T wr) := by
            show _ < _
            rw [Ev.leftW_eq HN5.out, HLW.out]
            have h2 := hq.2
            have h3 := HH0.out
            omega
          clear hq h14
          go_wp2_with fail
          go_roundw
          case rel => exact ⟨_, _, _, _, HNX.out⟩
          case measure => exact HLT.out
      · have hE1 : (FE == 0) = false := by simpa using hE
        have hE2 : (FE != 0) = true := by simpa using hE
        have HRZ : Hid (RZ = Ev.fin t FS ⟨0, FE⟩) := by
          have := HRN.out
          rw [if_pos hE] at this
          exact this.symm
        have HFIN : Hid (Ev.FinP K X T R (.slice (some ad) l.length cp) (.map (some M)) v u hd t A c RZ w (.returned (.agg #[.int .i64 0, .int .i64 FE])) ((w5.setCell ⟨Y, 0, none⟩ (.int .i64 0)).setCell ⟨Y, 1, none⟩ (.int .i64 FE))) := Ev.fin_of HN5.out HM5.out HYE.out HY5.out.2 (by rw [HRZ.out, HK5.out, HD5.out]; rfl) (by rw [HRZ.out]; rfl) (by rw [HRZ.out]; rfl)
        have HRW := Lib.hid (Ev.set2_heap (x := .int .i64 0) (y := .int .i64 FE) HY5.out.1)
        clear HRL HSR HAOK HALN hE
        go_wp2_with fail
        refine bodyPost_ret (v := .agg #[.int .i64 0, .int .i64 FE]) (results_cell_row Tryz.results82 _ _ Y 30 #[.int .i64 0, .int .i64 FE] (0, 0) _ rfl HRW.out Tryz.underlying30 rfl HI.out) rfl ?_
        exact HFIN.out
end Go.Proofs.YtepnofklmdofmaaGreatDoor
