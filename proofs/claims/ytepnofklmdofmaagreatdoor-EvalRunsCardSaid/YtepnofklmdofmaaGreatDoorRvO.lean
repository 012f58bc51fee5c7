/-
  Layer 13: the document's Do.
-/
import Derived.Test.YtepnofklmdofmaaGreatDoorLowRvN
import Derived.StillTailTactics
import Derived.Deep.RegionLaw
import Derived.Deep.RegionHeldLaw
namespace Go.Proofs.YtepnofklmdofmaaGreatDoor
open Go.RowKit

namespace Ev
/-- A Do's own blocks: the program, the task, the result. -/
structure DBlk (w : World) (PA : Option Addr) (pl pc : Nat) (t : Tsk) (A : Option Addr) (c P0 T0 Z : Nat) (W : World) : Prop where
  pp : W.heap[P0]? = some (.cells #[.slice PA pl pc] 24 (0, 0))
  tt : W.heap[T0]? = some (.cells #[.string t.path, .int .i64 t.fn, .slice A t.args.length c, .int .i64 (t.fuel : Int)] 41 (0, 0))
  zz : W.heap[Z]? = some (.cells #[.int .i64 0, .int .i64 0] 30 (0, 0))
  bel : Below w.heap.size w W
  hz : w.heap.size ≤ Z
theorem DBlk.below {w : World} {PA : Option Addr} {pl pc : Nat} {t : Tsk} {A : Option Addr} {c P0 T0 Z : Nat} {W W' : World} (h : DBlk w PA pl pc t A c P0 T0 Z W) (hb : Below W.heap.size W W') : DBlk w PA pl pc t A c P0 T0 Z W' :=
  ⟨(hb.block _ (Cd.ltH h.pp)).trans h.pp, (hb.block _ (Cd.ltH h.tt)).trans h.tt, (hb.block _ (Cd.ltH h.zz)).trans h.zz, h.bel.trans (hb.mono h.bel.size), h.hz⟩
theorem DBlk.first (w : World) (PA : Option Addr) (pl pc : Nat) (t : Tsk) (A : Option Addr) (c : Nat) : DBlk w PA pl pc t A c w.heap.size (w.heap.size + 1) (w.heap.size + 1 + 1)
    (((w.alloc (.cells #[.slice PA pl pc] 24)).alloc (.cells #[.string t.path, .int .i64 t.fn, .slice A t.args.length c, .int .i64 (t.fuel : Int)] 41)).alloc (.cells #[.int .i64 0, .int .i64 0] 30)) := by
  obtain ⟨V1, hV1⟩ : ∃ V, V = w.alloc (.cells #[.slice PA pl pc] 24) := ⟨_, rfl⟩
  have s1 : V1.heap.size = w.heap.size + 1 := by rw [hV1]; simp
  have p1 : V1.heap[w.heap.size]? = some (.cells #[.slice PA pl pc] 24 (0, 0)) := by rw [hV1]; exact heap_alloc_new w _
  have b1 : Below w.heap.size w V1 := by rw [hV1]; exact Cd.fn1 _ _ _
  rw [← hV1]
  clear hV1
  obtain ⟨V2, hV2⟩ : ∃ V, V = V1.alloc (.cells #[.string t.path, .int .i64 t.fn, .slice A t.args.length c, .int .i64 (t.fuel : Int)] 41) := ⟨_, rfl⟩
  have s2 : V2.heap.size = w.heap.size + 1 + 1 := by rw [hV2]; simp [s1]
  have p2 : V2.heap[w.heap.size + 1]? = some (.cells #[.string t.path, .int .i64 t.fn, .slice A t.args.length c, .int .i64 (t.fuel : Int)] 41 (0, 0)) := by rw [hV2, ← s1]; exact heap_alloc_new V1 _
  have b2 : Below V1.heap.size V1 V2 := by rw [hV2]; exact Cd.fn1 _ _ _
  rw [← hV2]
  clear hV2
  have b3 : Below V2.heap.size V2 (V2.alloc (.cells #[.int .i64 0, .int .i64 0] 30)) := Cd.fn1 _ _ _
  have p3 : (V2.alloc (.cells #[.int .i64 0, .int .i64 0] 30)).heap[w.heap.size + 1 + 1]? = some (.cells #[.int .i64 0, .int .i64 0] 30 (0, 0)) := by rw [← s2]; exact heap_alloc_new V2 _
  refine ⟨(b3.block _ (by omega)).trans ((b2.block _ (by omega)).trans p1), (b3.block _ (by omega)).trans p2, p3, b1.trans ((b2.mono b1.size).trans (b3.mono (by omega))), by omega⟩
/-- Behind an op's fork: an error, or what goes on; a join still to come. -/
def RMid (j : Bool) (w0 : World) (F : Value) (t : Tsk) (A : Option Addr) (c B R : Nat) (p : List Cd.FnV) (o : Cd.OpV) (s : St) (O : Nat) (er : Int) (WA : Option Addr) (n wc : Nat) (w : World) : Prop :=
  ∃ (u v : Value) (js : List Int) (ds : List Dm) (s2 : St) (WA' : Option Addr) (wc' : Nat) (l : List Res), RLp w0 F t A c B R u v js ds s2 WA' wc' l w ∧
    (w.heap[O]? = some (.cells #[.int .u8 (o.k : Int), .int .i64 o.d, .int .i64 o.a, .int .i64 o.b, .int .i64 o.n] 72 (0, 0)) ∧ LOff w0 B R u v WA' O) ∧
    ((j = true ∧ er = 0 ∧ (o.k = 13 ∨ o.k = 14)) → s2 = paid s ∧ s.left ≠ 0) ∧ (¬ (j = true ∧ er = 0 ∧ (o.k = 13 ∨ o.k = 14)) → Next p t o er s s2) ∧ ds.length ≤ t.fuel + 1 ∧ ((s2.regs.length : Int) = (fnOf p t).regs) ∧
    (er = 0 → (j = true ∨ o.k ≠ 14) → WA = WA' ∧ wc = wc' ∧ n = s2.wts.length ∧ l = s2.wts.map Prod.snd ∧ s2.kids = js.length + s2.wts.length ∧ ds.length + s2.left ≤ t.fuel)
theorem end_zero {p : List Cd.FnV} {t : Tsk} {s : St} (hr : doT p t = run (s.left + 1) p t s) (h0 : s.left = 0) : doT p t = fin t s ⟨0, 130⟩ := by rw [hr]; exact run_end p s.left t s h0
def dM (t : Tsk) (r : Res) (kids : Nat) (A : Option Addr) (c : Nat) : Dm := ⟨⟨t, r, kids⟩, A, c⟩
/-- A row of one. -/
theorem own_one {w : World} {D : Nat} {m : Dm} (h : w.heap[D]? = some (.cells m.cells.toArray 96 (0, 0))) : w.ownsRow 0 96 7 (.slice (some ⟨D, 0, none⟩) 1 1) 1 (dcells [m]) := by
  have e : dcells [m] = m.cells := by unfold dcells; simp
  have hl : m.cells.length = 7 := rfl
  refine ⟨by rw [e, hl], .inr ⟨D, 1, m.cells.toArray, rfl, Nat.zero_le _, h, Nat.le_refl _, by unfold maxLen; omega, by simp [hl], by rw [e]; exact List.take_of_length_le (by rw [hl]; exact Nat.le_refl _)⟩⟩
theorem dlies13 {w : World} {A : Option Addr} {n c : Nat} {ms : List Dm} (h : w.ownsRow 0 96 7 (.slice A n c) n (dcells ms)) : Lies w w.heap.size A (dcells ms) := fun hp => by
  rcases h.2 with ⟨e, h0⟩ | ⟨g, cap, cur, e1, hg, hh, _⟩
  · have := h.1
    rw [h0] at this
    omega
  · obtain rfl : A = some ⟨g, 0, none⟩ := by injection e1
    exact ⟨⟨g, 0, none⟩, rfl, (h.lt g rfl).2, fun j u hu => h.cells (g := g) rfl j u hu⟩
/-- The cells that a Do's last loads read. -/
def DS (X T0 B : Nat) (r : Res) (t : Tsk) (A : Option Addr) (c kids : Nat) (VA : Option Addr) (n vc : Nat) (w : World) : Prop :=
  (w.cell? ⟨X, 0, none⟩ = some (.int .i64 r.val) ∧ w.cell? ⟨X, 1, none⟩ = some (.int .i64 r.err)) ∧
  (w.cell? ⟨T0, 0, none⟩ = some (.string t.path) ∧ w.cell? ⟨T0, 1, none⟩ = some (.int .i64 t.fn) ∧ w.cell? ⟨T0, 2, none⟩ = some (.slice A t.args.length c) ∧ w.cell? ⟨T0, 3, none⟩ = some (.int .i64 (t.fuel : Int))) ∧
  w.cell? ⟨B, 8, none⟩ = some (.int .i64 (kids : Int)) ∧ w.cell? ⟨B, 11, none⟩ = some (.slice VA n vc)
theorem DS.mv {X T0 B : Nat} {r : Res} {t : Tsk} {A : Option Addr} {c kids : Nat} {VA : Option Addr} {n vc : Nat} {w w' : World} (h : DS X T0 B r t A c kids VA n vc w) (hX : w'.heap[X]? = w.heap[X]?) (hT : w'.heap[T0]? = w.heap[T0]?) (hB : w'.heap[B]? = w.heap[B]?) : DS X T0 B r t A c kids VA n vc w' := by
  obtain ⟨⟨a, b⟩, ⟨d, e, f, g⟩, i, j⟩ := h
  exact ⟨⟨(World.cell?_of_block (w := w) hX).trans a, (World.cell?_of_block (w := w) hX).trans b⟩, ⟨(World.cell?_of_block (w := w) hT).trans d, (World.cell?_of_block (w := w) hT).trans e, (World.cell?_of_block (w := w) hT).trans f, (World.cell?_of_block (w := w) hT).trans g⟩, (World.cell?_of_block (w := w) hB).trans i, (World.cell?_of_block (w := w) hB).trans j⟩
/-- A Do's end. -/
theorem doEnd {p : List Cd.FnV} {w W wx wy U w' : World} {PA : Option Addr} {pl pc P0 T0 Z : Nat} {F : Value} {t : Tsk} {A A2 : Option Addr} {c c2 B R : Nat} {u v : Value} {js : List Int} {ds : List Dm} {s2 : St} {WA : Option Addr} {wc : Nat} {l : List Res} {r : Res} (hD : DBlk w PA pl pc t A c P0 T0 Z W) (hx : RLp W F t A c B R u v js ds s2 WA wc l wx) (hlA : Lies w w.heap.size A (icells t.args))
    (hdo : doT p t = fin t s2 r) (hby : Below wx.heap.size wx wy) (hU : U = (wy.alloc (.cells (dM t r s2.kids A c).cells.toArray 96)).drew)
    (hrow : w'.ownsRow 0 96 7 (.slice A2 (1 + ds.length) c2) (1 + ds.length) (dcells [dM t r s2.kids A c] ++ dcells ds)) (hgr : U.grownBy w' (some wy.heap.size)) (hbl : (Value.slice A2 (1 + ds.length) c2).ownBlock = some wy.heap.size ∨ (Value.slice A2 (1 + ds.length) c2).ownBlock = some U.heap.size) :
    RDoP p t A w (.returned (.tuple #[.agg #[.int .i64 r.val, .int .i64 r.err], .slice A2 (1 + ds.length) c2])) ((w'.setCell ⟨Z, 0, none⟩ (.int .i64 r.val)).setCell ⟨Z, 1, none⟩ (.int .i64 r.err)) := by
  have hZ : Z < W.heap.size := Cd.ltH hD.zz
  have hWx := hx.bel.size
  have hyx := hby.size
  have hUs : U.heap.size = wy.heap.size + 1 := by rw [hU]; simp
  have hyU : Below wy.heap.size wy U := by rw [hU]; exact (Cd.fn1 _ _ _).drew
  have hbw : Below wx.heap.size wx w' := by
    refine (hby.trans (hyU.mono hyx)).grown hgr (by omega) (fun k hk => ?_)
    have : k = wy.heap.size := (Option.some.inj hk).symm
    omega
  have hbZ : Below w.heap.size w ((w'.setCell ⟨Z, 0, none⟩ (.int .i64 r.val)).setCell ⟨Z, 1, none⟩ (.int .i64 r.err)) :=
    ((hD.bel.trans ((hx.bel.mono hD.bel.size).trans (hbw.mono (Nat.le_trans hD.bel.size hWx)))).setCell hD.hz _).setCell hD.hz _
  have ho : ∀ i, i ≠ Z → ((w'.setCell ⟨Z, 0, none⟩ (.int .i64 r.val)).setCell ⟨Z, 1, none⟩ (.int .i64 r.err)).heap[i]? = w'.heap[i]? := fun i hi => (Below.heap_setCell _ _ _ _ hi).trans (Below.heap_setCell _ _ _ _ hi)
  have hbo : ∀ i, (Value.slice A2 (1 + ds.length) c2).ownBlock = some i → i ≠ Z := fun i hi => by
    rcases hbl with e | e
    · rw [e] at hi; have := Option.some.inj hi; omega
    · rw [e] at hi; have := Option.some.inj hi; omega
  have hrowZ := Gm.ownsKeep hrow (w' := (w'.setCell ⟨Z, 0, none⟩ (.int .i64 r.val)).setCell ⟨Z, 1, none⟩ (.int .i64 r.err)) fun i hi => ho i (hbo i hi)
  have hms : (dM t r s2.kids A c :: ds).length = 1 + ds.length := by rw [List.length_cons, Nat.add_comm]
  refine ⟨A2, c2, dM t r s2.kids A c :: ds, by rw [hms, hdo]; rfl, ?_, ⟨?_, fun q hq => ?_⟩, ?_, hbZ⟩
  · rw [hdo, List.map_cons, hx.rn.told]
    rfl
  · have e : dcells (dM t r s2.kids A c :: ds) = dcells [dM t r s2.kids A c] ++ dcells ds := dcells_cat [dM t r s2.kids A c] ds
    rw [e]
    intro hp
    rcases hrowZ.2 with ⟨e1, h0⟩ | ⟨g, cap, cur, e1, hg, hh, _⟩
    · omega
    · obtain rfl : A2 = some ⟨g, 0, none⟩ := by injection e1
      exact ⟨⟨g, 0, none⟩, rfl, (hrowZ.lt g rfl).2, fun j u hu => hrowZ.cells (g := g) rfl j u hu⟩
  · have hws := hD.bel.size
    rw [hq] at hbl
    rcases hbl with e | e
    · have e2 : q.block = wy.heap.size := Option.some.inj e
      omega
    · have e2 : q.block = U.heap.size := Option.some.inj e
      omega
  · intro m hm
    rcases List.mem_cons.1 hm with rfl | hm
    · exact ⟨(hlA.below hbZ).mono hbZ.size, fun _ q hq => .inr ⟨q, hq, rfl⟩⟩
    · have ha := hx.args m hm
      have hmv : Gm.Mvg (LOff W B R u v WA) (off0 w A) wx ((w'.setCell ⟨Z, 0, none⟩ (.int .i64 r.val)).setCell ⟨Z, 1, none⟩ (.int .i64 r.err)) :=
        ⟨hbw.os, hbw.tape, hbw.output, Nat.le_trans hbw.size (by simp [World.setCell]), fun i hi hof => (ho i (by have := hof.2.1; omega)).trans (hbw.block i hi), fun i _ hof => .inl (Nat.le_trans hD.bel.size hof.2.1)⟩
      exact ha.mv hmv
end Ev
/-- What Do comes to, of each task of that fuel. -/
def Ev.RDoAll (l : List Cd.Fm) (PA : Option Addr) (pc : Nat) (N : Nat) : Prop :=
  ∀ (t : Ev.Tsk) (A : Option Addr) (c : Nat) (w : World), t.fuel = N → Ev.TOk (Cd.fns l) t → Cd.Prog w w.heap.size PA l → Lies w w.heap.size A (icells t.args) →
    Calls Tryz.prog 35 #[.agg #[.slice PA l.length pc], t.val A c] w (Ev.RDoP (Cd.fns l) t A w)

set_option maxHeartbeats 8000000 in
set_option maxRecDepth 20000 in
theorem rdo_step (l : List Cd.Fm) (PA : Option Addr) (pc : Nat) (hG : ∀ f ∈ Cd.fns l, Ev.GoodF (Cd.fns l) f) (N : Nat) (ih : ∀ m, m < N → Ev.RDoAll l PA pc m) : Ev.RDoAll l PA pc N := by
  intro t A c w hN hT hP hl
  obtain ⟨fi, hfi, hfl⟩ := hT.fn
  have hfl2 : fi < l.length := by rw [← Cd.fns_len l]; exact hfl
  have hfo : Ev.fnOf (Cd.fns l) t = l[fi].f := by
    unfold Ev.fnOf
    rw [hfi, Int.toNat_natCast, List.getElem?_eq_getElem hfl]
    simp [Cd.fns]
  have hgf := hG _ hT.mem
  obtain ⟨n, hrn, hn16⟩ := hgf.regs
  obtain ⟨na, hna, hnr⟩ := hgf.args
  have han : t.args.length ≤ n := by have := hT.args; omega
  have hB := Ev.DBlk.first w PA l.length pc t A c
  obtain ⟨W, hW⟩ : ∃ W, W = (((w.alloc (.cells #[.slice PA l.length pc] 24)).alloc (.cells #[.string t.path, .int .i64 t.fn, .slice A t.args.length c, .int .i64 (t.fuel : Int)] 41)).alloc (.cells #[.int .i64 0, .int .i64 0] 30)) := ⟨_, rfl⟩
  rw [← hW] at hB
  have HBG := Lib.hid (rbegin13 l PA pc t A c n fi W ((hP.below hB.bel).mono hB.bel.size) ((hl.below hB.bel).mono hB.bel.size) hfi hfl2 (by rw [← hfo]; exact hrn) hn16 han)
  have HST : Hid (Ev.start (Cd.fns l) t = Ev.beg0 t n) := by
    show _ = _
    unfold Ev.start Ev.beg0 Ev.begR
    rw [hrn, Int.toNat_natCast]
  obtain ⟨P0, hP0⟩ : ∃ P0, P0 = w.heap.size := ⟨_, rfl⟩
  obtain ⟨T0, hT0⟩ : ∃ T0, T0 = w.heap.size + 1 := ⟨_, rfl⟩
  obtain ⟨Z, hZ⟩ : ∃ Z, Z = w.heap.size + 1 + 1 := ⟨_, rfl⟩
  rw [← hZ, ← hT0, ← hP0] at hB
  have p0 : W.cell? ⟨P0, 0, none⟩ = some (.slice PA l.length pc) := cell_of_row _ _ 0 _ _ _ hB.pp
  have t0 : W.cell? ⟨T0, 0, none⟩ = some (.string t.path) := cell_of_row _ _ 0 _ _ _ hB.tt
  have t1 : W.cell? ⟨T0, 1, none⟩ = some (.int .i64 t.fn) := cell_of_row _ _ 1 _ _ _ hB.tt
  have t2 : W.cell? ⟨T0, 2, none⟩ = some (.slice A t.args.length c) := cell_of_row _ _ 2 _ _ _ hB.tt
  have t3 : W.cell? ⟨T0, 3, none⟩ = some (.int .i64 (t.fuel : Int)) := cell_of_row _ _ 3 _ _ _ hB.tt
  have HB := Lib.hid hB
  have HTK := Lib.hid hT
  have HPR := Lib.hid hP
  have HLI := Lib.hid hl
  have HN := Lib.hid hN
  have HIH := Lib.hid ih
  have HG := Lib.hid hG
  have HFN := Lib.hid (And.intro hrn hfo)
  clear ih hN hT hP hl hfi hgf hrn hna hnr han hB hfo hG hfl
  unfold Ev.Tsk.val at HBG ⊢
  go_enter Tryz.func35, Tryz.ntmps35
  go_upto_region 1 with fail
  rw [← hW]
  try rw [← hZ]
  try rw [← hT0]
  try rw [← hP0]
  clear hW hP0 hT0 hZ
  go_wp2_with fail
  refine HBG.out.mono ?_
  rintro e w4 ⟨B, R, rfl, hr4, hb4, hB4, hR4⟩
  have HS0 : Hid (Ev.SOk (Cd.fns l) t (Ev.start (Cd.fns l) t)) := Ev.start_ok HTK.out HG.out
  have HL0 : Hid (Ev.RLp W (.slice PA l.length pc) t A c B R (.slice none 0 0) (.slice none 0 0) [] [] (Ev.start (Cd.fns l) t) none 0 [] w4) := by
    show Ev.RLp _ _ _ _ _ _ _ _ _ _ _ _ _ _ _ _
    rw [HST.out]
    refine ⟨hr4, (fun m hm => by cases hm), hb4, fun i hi => ⟨by omega, by omega, (fun e => by cases e), fun e => by cases e⟩, World.ownsRow_nil _ _ _ _, fun q hq => by cases hq⟩
  have HD4 := Lib.hid (HB.out.below hb4)
  clear hr4 hb4 hB4 hR4 p0 t0 t1 t2 t3 HBG
  go_wp2_with fail
  go_loopg [7] t.fuel (fun g s7 wr => ∃ (u v : Value) (js : List Int) (ds : List Ev.Dm) (s : Ev.St) (WA : Option Addr) (wc : Nat), g = s.left ∧ s7 = .slice WA s.wts.length wc ∧
    Hid ((Ev.RLp W (.slice PA l.length pc) t A c B R u v js ds s WA wc (s.wts.map Prod.snd) wr ∧ Ev.SOk (Cd.fns l) t s ∧ Ev.doT (Cd.fns l) t = Ev.run (s.left + 1) (Cd.fns l) t s ∧ s.kids = js.length + s.wts.length ∧ s.left ≤ t.fuel) ∧ ds.length + s.left ≤ t.fuel))
  case atStart => exact ⟨_, _, [], [], Ev.start (Cd.fns l) t, none, 0, rfl, rfl, ⟨HL0.out, HS0.out, rfl, rfl, Nat.le_refl _⟩, by simp [Ev.start]⟩
  case round =>
    rename World => wr
    obtain ⟨u, v, js, ds, s, WA, wc, rfl, rfl, HO⟩ := hrel
    have hbw : Below w.heap.size w wr := HB.out.bel.trans (HO.out.1.1.bel.mono HB.out.bel.size)
    have HPW := Lib.hid ((HPR.out.below hbw).mono hbw.size)
    have HSTP := Lib.hid (rstep HO.out.1.1.rn HPW.out HG.out HTK.out HO.out.1.2.1)
    have HBW := Lib.hid hbw
    clear hbw
    go_wp2_with fail
    refine HSTP.out.mono ?_
    rintro e w5 ⟨rfl, hr5, hm5⟩
    obtain ⟨o, ho⟩ : ∃ o, o = Ev.opAt (Cd.fns l) t s := ⟨_, rfl⟩
    have HGO := Lib.hid (Ev.opAt_good HTK.out HG.out HO.out.1.2.1)
    have HNXA := Lib.hid (Ev.next_act (s := s) HTK.out HG.out HO.out.1.2.1)
    rw [← ho] at hr5 HGO HNXA ⊢
    obtain ⟨er, her⟩ : ∃ er, er = Ev.stepE s o := ⟨_, rfl⟩
    obtain ⟨s1, hs1⟩ : ∃ s1, s1 = Ev.stepS s o := ⟨_, rfl⟩
    rw [← hs1] at hr5
    rw [← her]
    have HL5 := Lib.hid (HO.out.1.1.mv hr5 hm5)
    obtain ⟨V, hV⟩ : ∃ V, V = w5.alloc (.cells #[.int .u8 (o.k : Int), .int .i64 o.d, .int .i64 o.a, .int .i64 o.b, .int .i64 o.n] 72) := ⟨_, rfl⟩
    have hbV : Below w5.heap.size w5 V := by rw [hV]; exact Cd.fn1 _ _ _
    have HLV := Lib.hid (HL5.out.below hbV)
    obtain ⟨O, hO⟩ : ∃ O, O = w5.heap.size := ⟨_, rfl⟩
    have HOV : Hid (V.heap[O]? = some (.cells #[.int .u8 (o.k : Int), .int .i64 o.d, .int .i64 o.a, .int .i64 o.b, .int .i64 o.n] 72 (0, 0)) ∧ Ev.LOff W B R u v WA O) := ⟨by rw [hV, hO]; exact heap_alloc_new w5 _, HL5.out.fresh (by omega)⟩
    have o0 : V.cell? ⟨O, 0, none⟩ = some (.int .u8 (o.k : Int)) := cell_of_row _ _ 0 _ _ _ HOV.out.1
    have HER := Lib.hid (And.intro her hs1)
    have HSS : Hid (s1.wts = s.wts ∧ s1.kids = s.kids ∧ s1.done = s.done) := by show _ ∧ _; rw [hs1]; exact Ev.stepS_wts s o
    have k0 := HGO.out.1.k
    clear hr5 hm5 ho her hs1 hbV HSTP HL5
    go_upto_region 4 with fail
    rw [← hV, ← hO]
    clear hV hO
    go_cut [29] (fun s29 wx => s29 = .bool (decide (er = 0 ∧ o.k = 12)) ∧ wx = V)
    case first =>
      by_cases e : er = 0
      · by_cases k : o.k = 12
        · have hd : decide (er = 0 ∧ o.k = 12) = true := decide_eq_true ⟨e, k⟩
          have e0 : (er == 0) = true := by simpa using e
          have k0 : ((o.k : Int) == 12) = true := by simp; omega
          have HD := Lib.hid hd
          clear e k hd
          go_wp2_with fail
          go_meet
          exact ⟨by rw [HD.out], rfl⟩
        · have hd : decide (er = 0 ∧ o.k = 12) = false := decide_eq_false fun h => k h.2
          have e0 : (er == 0) = true := by simpa using e
          have k0 : ((o.k : Int) == 12) = false := by simp; omega
          have HD := Lib.hid hd
          clear e k hd
          go_wp2_with fail
          go_meet
          exact ⟨by rw [HD.out], rfl⟩
      · have hd : decide (er = 0 ∧ o.k = 12) = false := decide_eq_false fun h => e h.1
        have e0 : (er == 0) = false := by simpa using e
        have HD := Lib.hid hd
        clear e hd
        go_wp2_with fail
        go_meet
        exact ⟨by rw [HD.out], rfl⟩
    case rest =>
      rename World => V2
      obtain ⟨rfl, rfl⟩ := hcut
      generalize hb29 : decide (er = 0 ∧ o.k = 12) = b29
      have HB29 := Lib.hid hb29
      clear hb29 k0
      go_upto_if 29 with fail
      go_cut [7, 9] (fun s7 s9 wx => ∃ (er2 : Int) (WA2 : Option Addr) (n2 wc2 : Nat), s7 = .slice WA2 n2 wc2 ∧ s9 = .int .i64 er2 ∧ Hid (Ev.RMid true W (.slice PA l.length pc) t A c B R (Cd.fns l) o s O er2 WA2 n2 wc2 wx))
      case first =>
        cases b29 with
        | false =>
          have HM : Hid (Ev.RMid true W (.slice PA l.length pc) t A c B R (Cd.fns l) o s O er WA s.wts.length wc V2) := by
            refine ⟨u, v, js, ds, s1, WA, wc, _, HLV.out, HOV.out, ?_⟩
            have hno : ¬ (er = 0 ∧ o.k = 12) := of_decide_eq_false HB29.out
            have hk := HGO.out.1.k
            by_cases hz : s.left = 0
            · have hes : er = 130 ∧ s1 = s := by rw [HER.out.1, HER.out.2]; unfold Ev.stepE Ev.stepS; rw [if_pos hz, if_pos hz]; exact ⟨rfl, rfl⟩
              refine ⟨fun h => by omega, fun _ => ⟨fun _ => ?_, fun e => by omega, fun e => by omega⟩, by have := HO.out.2; omega, by rw [hes.2]; exact HO.out.1.2.1.regs, fun e => by omega⟩
              rw [hes.1, hes.2]
              exact Ev.end_zero HO.out.1.2.2.1 hz
            · have hnx := HNXA.out hz HO.out.1.2.2.1
              have hds : ds.length + s1.left ≤ t.fuel := by
                have h1 := HO.out.2
                have h2 : s1.left ≤ s.left := by
                  rw [HER.out.2]
                  unfold Ev.stepS
                  rw [if_neg hz]
                  split
                  · unfold Ev.plS
                    cases hp : Ev.plain (Ev.paid s) o with
                    | none => exact Nat.sub_le _ _
                    | some s3 => show s3.left ≤ _; rw [(Ev.plain_left hp).1]; exact Nat.sub_le _ _
                  · exact Nat.sub_le _ _
                omega
              have hwk : s1.kids = js.length + s1.wts.length := by rw [HSS.out.1, HSS.out.2.1]; exact HO.out.1.2.2.2.1
              by_cases hk11 : o.k ≤ 11
              · have hes : er = Ev.plE (Ev.paid s) o ∧ s1 = Ev.plS (Ev.paid s) o := by rw [HER.out.1, HER.out.2]; unfold Ev.stepE Ev.stepS; rw [if_neg hz, if_neg hz, if_pos hk11, if_pos hk11]; exact ⟨rfl, rfl⟩
                unfold Ev.actE Ev.actS at hnx
                rw [if_neg (by omega), if_neg (by omega), if_neg (by omega), if_neg (by omega), ← hes.1, ← hes.2] at hnx
                have hrg : (s1.regs.length : Int) = (Ev.fnOf (Cd.fns l) t).regs := by
                  by_cases e : er = 0
                  · exact (hnx.2.2 e (by omega)).2.1.regs
                  · rw [hes.2]
                    unfold Ev.plS
                    cases hp : Ev.plain (Ev.paid s) o with
                    | none => exact HO.out.1.2.1.regs
                    | some s3 => exact absurd (by rw [hes.1]; unfold Ev.plE; rw [hp]; rfl) e
                refine ⟨fun h => by omega, fun _ => hnx, by omega, hrg, fun _ _ => ⟨rfl, rfl, by rw [HSS.out.1], by rw [HSS.out.1], hwk, hds⟩⟩
              · have hes : er = 0 ∧ s1 = Ev.paid s := by rw [HER.out.1, HER.out.2]; unfold Ev.stepE Ev.stepS; rw [if_neg hz, if_neg hz, if_neg hk11, if_neg hk11]; exact ⟨rfl, rfl⟩
                have hk13 : o.k = 13 ∨ o.k = 14 := by omega
                refine ⟨fun _ => ⟨hes.2, hz⟩, fun h => absurd ⟨rfl, hes.1, hk13⟩ h, by omega, by rw [hes.2]; exact HO.out.1.2.1.regs, fun _ _ => ⟨rfl, rfl, by rw [HSS.out.1], by rw [HSS.out.1], hwk, hds⟩⟩
          go_wp2_with fail
          go_meet
          exact ⟨er, WA, s.wts.length, wc, rfl, rfl, HM.out⟩
        | true =>
          have hyes : er = 0 ∧ o.k = 12 := of_decide_eq_true HB29.out
          have hz : s.left ≠ 0 := fun e => by
            have := HER.out.1
            unfold Ev.stepE at this
            rw [if_pos e] at this
            omega
          have hs1 : s1 = Ev.paid s := by rw [HER.out.2]; unfold Ev.stepS; rw [if_neg hz, if_neg (by omega)]
          subst hs1
          have hok := HO.out.1.2.1
          have hkj := HO.out.1.2.2.2.1
          have hnx := HNXA.out hz HO.out.1.2.2.1
          unfold Ev.actE Ev.actS at hnx
          rw [if_pos hyes.2, if_pos hyes.2] at hnx
          obtain ⟨fk, hfk, hfkl, hfa⟩ := HGO.out.1.fork hyes.2
          obtain ⟨dd, da, db, hdd, hda, -, hd16, -, -⟩ := HGO.out.1.nat
          have hfkl2 : fk < l.length := by rw [← Cd.fns_len l]; exact hfkl
          have hpk : (Cd.fns l)[fk]'hfkl = l[fk].f := by simp [Cd.fns]
          obtain ⟨na, hna, -⟩ := (HG.out _ (List.getElem_mem hfkl)).args
          rw [hpk] at hna
          have hargN : Ck.argN (Cd.fns l) o = (na : Int) := by
            unfold Ck.argN
            rw [hfk, Int.toNat_natCast, List.getElem?_eq_getElem hfkl, hpk]
            exact hna
          have hbw2 := HB.out.bel.trans (HLV.out.bel.mono HB.out.bel.size)
          have hP2 := (HPR.out.below hbw2).mono hbw2.size
          have hps : t.path.size ≤ 1000000 := by have := Br.may_size HTK.out.path; omega
          have hrl : (Ev.paid s).regs.length = s.regs.length := rfl
          obtain ⟨nr, hnr, hnr16⟩ := (HG.out _ HTK.out.mem).regs
          have hrn : s.regs.length = nr := by have := hok.regs; omega
          have hkc : Calls Tryz.prog 54 #[.pointer (some ⟨B, 0, none⟩), .agg #[.int .u8 (o.k : Int), .int .i64 o.d, .int .i64 o.a, .int .i64 o.b, .int .i64 o.n]] V2 (Ev.RKidP B R (.slice PA l.length pc) u v t A c js ds (Ev.paid s) (Cd.fns l) o V2) := by
            by_cases h16 : 16 ≤ (Ev.paid s).kids
            · exact rkid_none HLV.out.rn (Cd.fns l) o h16
            · cases hko : Br.kidOk t.path (((Ev.paid s).kids : Int) + 1) with
              | false => exact rkid_deep HLV.out.rn (Cd.fns l) o (by omega) hps hko
              | true =>
                refine rkid_ok HLV.out.rn hP2 o (by omega) hps hko fk na da dd hfk hfkl2 hna hda hdd hd16 ?_ (by rw [hrl]; omega) (by have := hok.left; show s.left - 1 ≤ _; omega) (by show js.length + s.wts.length ≤ 16; have := hok.kids; omega)
                rw [hargN, hda] at hfa
                rcases hfa with e | e
                · left; omega
                · right; rw [hrl]; omega
          have HKC := Lib.hid hkc
          have HNX := Lib.hid hnx
          clear hkc hnx hfa hargN hna hnr
          have o0 : V2.cell? ⟨O, 0, none⟩ = some (.int .u8 (o.k : Int)) := cell_of_row _ _ 0 _ _ _ HOV.out.1
          have o1 : V2.cell? ⟨O, 1, none⟩ = some (.int .i64 o.d) := cell_of_row _ _ 1 _ _ _ HOV.out.1
          have o2 : V2.cell? ⟨O, 2, none⟩ = some (.int .i64 o.a) := cell_of_row _ _ 2 _ _ _ HOV.out.1
          have o3 : V2.cell? ⟨O, 3, none⟩ = some (.int .i64 o.b) := cell_of_row _ _ 3 _ _ _ HOV.out.1
          have o4 : V2.cell? ⟨O, 4, none⟩ = some (.int .i64 o.n) := cell_of_row _ _ 4 _ _ _ HOV.out.1
          have HYK := Lib.hid hyes
          have HZ0 := Lib.hid hz
          have HKJ := Lib.hid hkj
          clear hyes hz hok hkj hps hrl hnr16 hrn hP2 hbw2 hfk hfkl hfkl2 hpk hdd hda hd16
          have HERR : ∀ (E : Int) (w6 : World), E ≠ 0 → (Ev.forkE t (Ev.paid s) = E) → Below V2.heap.size V2 w6 → Ev.RMid true W (.slice PA l.length pc) t A c B R (Cd.fns l) o s O E WA s.wts.length wc w6 := by
            intro E w6 hE hf hb
            have hn := HNX.out.1 (by rw [hf]; exact hE)
            rw [hf, if_neg (by omega)] at hn
            refine ⟨u, v, js, ds, Ev.paid s, WA, wc, _, HLV.out.below hb, ⟨(hb.block O (Cd.ltH HOV.out.1)).trans HOV.out.1, HOV.out.2⟩, fun h => absurd h.2.1 hE, fun _ => ⟨fun _ => hn, fun e => absurd e hE, fun e => absurd e hE⟩, by have := HO.out.2; omega, HO.out.1.2.1.regs, fun e => absurd e hE⟩
          have HERH := Lib.hid HERR
          clear HERR
          go_wp2_with fail
          refine HKC.out.mono ?_
          rintro e w6 (⟨hk, rfl, hb6⟩ | ⟨hk, hko, rfl, hb6⟩ | ⟨hk, hko, A2, c2, u', rfl, hli, hoff, hrn6, hmv6⟩)
          · have hfe : Ev.forkE t (Ev.paid s) = 132 := by unfold Ev.forkE; rw [if_pos hk]
            have HM := Lib.hid (HERH.out 132 _ (by decide) hfe (hb6.trans (((Below.refl w6.heap.size w6).alloc (Nat.le_refl _) (.cells #[.string ⟨#[]⟩, .int .i64 0, .slice none 0 0, .int .i64 0] 41)).mono hb6.size)))
            clear hk hb6 hfe HKC HERH
            unfold Ev.noTask
            go_wp2_with fail
            go_meet
            exact ⟨132, WA, s.wts.length, wc, rfl, rfl, HM.out⟩
          · have hfe : Ev.forkE t (Ev.paid s) = 133 := by unfold Ev.forkE; rw [if_neg (by omega), if_pos hko]
            have HM := Lib.hid (HERH.out 133 _ (by decide) hfe (hb6.trans (((Below.refl w6.heap.size w6).alloc (Nat.le_refl _) (.cells #[.string ⟨#[]⟩, .int .i64 0, .slice none 0 0, .int .i64 0] 41)).mono hb6.size)))
            clear hk hko hb6 hfe HKC HERH
            unfold Ev.noTask
            go_wp2_with fail
            go_meet
            exact ⟨133, WA, s.wts.length, wc, rfl, rfl, HM.out⟩
          · have hfe : Ev.forkE t (Ev.paid s) = 0 := by unfold Ev.forkE; rw [if_neg (by omega), if_neg (by rw [hko]; decide)]
            obtain ⟨F2, hF2⟩ : ∃ F2, F2 = (Ev.paid s).left / 2 := ⟨_, rfl⟩
            rw [← hF2]
            obtain ⟨kt, hkt⟩ : ∃ kt, kt = Ev.kidP (Cd.fns l) t (Ev.paid s) o := ⟨_, rfl⟩
            obtain ⟨x, hx⟩ : ∃ x, x = (Ev.doT (Cd.fns l) kt).1 := ⟨_, rfl⟩
            have L6 := HLV.out.mv (hrn6 x) hmv6
            obtain ⟨wK, hwK⟩ : ∃ wK, wK = w6.alloc (.cells #[.string (Br.kidT t.path (((Ev.paid s).kids : Int) + 1)), .int .i64 o.n, .slice A2 (Ev.kargs (Cd.fns l) (Ev.paid s) o).length c2, .int .i64 (F2 : Int)] 41) := ⟨_, rfl⟩
            have hbK : Below w6.heap.size w6 wK := by rw [hwK]; exact Cd.fn1 _ _ _
            have LK := L6.below hbK
            have hbw := HB.out.bel.trans (LK.bel.mono HB.out.bel.size)
            have hktf : kt.fuel < N := by
              rw [← HN.out, hkt]
              show (s.left - 1) / 2 < t.fuel
              have := HO.out.1.2.2.2.2
              have := HZ0.out
              omega
            have hkok : Ev.TOk (Cd.fns l) kt := by
              rw [hkt]
              exact Ev.kid_ok HG.out (s := Ev.paid s) HO.out.1.2.1.regs HGO.out.1 HYK.out.2 (by have := HO.out.1.2.1.left; show s.left - 1 ≤ _; omega) hko
            have hdc := HIH.out kt.fuel hktf kt A2 c2 wK rfl hkok ((HPR.out.below hbw).mono hbw.size) (by rw [hkt]; exact (hli.below hbK).mono hbK.size)
            have HDOC : Hid (Calls Tryz.prog 35 #[.agg #[.slice PA l.length pc], .agg #[.string (Br.kidT t.path (((Ev.paid s).kids : Int) + 1)), .int .i64 o.n, .slice A2 (Ev.kargs (Cd.fns l) (Ev.paid s) o).length c2, .int .i64 (F2 : Int)]] wK (Ev.RDoP (Cd.fns l) kt A2 wK)) := by
              have : kt.val A2 c2 = .agg #[.string (Br.kidT t.path (((Ev.paid s).kids : Int) + 1)), .int .i64 o.n, .slice A2 (Ev.kargs (Cd.fns l) (Ev.paid s) o).length c2, .int .i64 (F2 : Int)] := by rw [hkt, hF2]; rfl
              rw [this] at hdc
              exact hdc
            have HLK := Lib.hid LK
            have HKT := Lib.hid (And.intro hkt (And.intro hx hfe))
            have hst6 := Ev.stay_mv (w0 := W) (WA := WA) hmv6 O (Cd.ltH HOV.out.1) HOV.out.2
            have HOK : Hid (wK.heap[O]? = some (.cells #[.int .u8 (o.k : Int), .int .i64 o.d, .int .i64 o.a, .int .i64 o.b, .int .i64 o.n] 72 (0, 0)) ∧ Ev.LOff W B R u' v WA O) := ⟨(hbK.block O (Nat.lt_of_lt_of_le (Cd.ltH HOV.out.1) hmv6.size)).trans (hst6.1.trans HOV.out.1), hst6.2⟩
            have hA2 : ∀ q, A2 = some q → Ev.LOff W B R u' v WA q.block := fun q hq => ⟨(hoff q hq).1, Nat.le_trans HLV.out.bel.size (hoff q hq).2, fun q2 hq2 e => by
              have h1 := HLV.out.wlt q2 hq2
              have h2 := (hoff q hq).2
              omega⟩
            have HA2 := Lib.hid hA2
            have hP0 : V2.heap[P0]? = some (.cells #[.slice PA l.length pc] 24 (0, 0)) := (HLV.out.bel.block P0 (Cd.ltH HB.out.pp)).trans HB.out.pp
            have hPK : wK.heap[P0]? = some (.cells #[.slice PA l.length pc] 24 (0, 0)) := (LK.bel.block P0 (Cd.ltH HB.out.pp)).trans HB.out.pp
            have p0K : wK.cell? ⟨P0, 0, none⟩ = some (.slice PA l.length pc) := cell_of_row _ _ 0 _ _ _ hPK
            have hKK : wK.heap[w6.heap.size]? = some (.cells #[.string (Br.kidT t.path (((Ev.paid s).kids : Int) + 1)), .int .i64 o.n, .slice A2 (Ev.kargs (Cd.fns l) (Ev.paid s) o).length c2, .int .i64 (F2 : Int)] 41 (0, 0)) := by rw [hwK]; exact heap_alloc_new w6 _
            have kk0 : wK.cell? ⟨w6.heap.size, 0, none⟩ = some (.string (Br.kidT t.path (((Ev.paid s).kids : Int) + 1))) := cell_of_row _ _ 0 _ _ _ hKK
            have kk1 : wK.cell? ⟨w6.heap.size, 1, none⟩ = some (.int .i64 o.n) := cell_of_row _ _ 1 _ _ _ hKK
            have kk2 : wK.cell? ⟨w6.heap.size, 2, none⟩ = some (.slice A2 (Ev.kargs (Cd.fns l) (Ev.paid s) o).length c2) := cell_of_row _ _ 2 _ _ _ hKK
            have kk3 : wK.cell? ⟨w6.heap.size, 3, none⟩ = some (.int .i64 (F2 : Int)) := cell_of_row _ _ 3 _ _ _ hKK
            clear hF2 hk hko hli hoff hrn6 hmv6 hkt hx hfe L6 LK hbw hktf hkok hdc hst6 hA2 hP0 hPK hKK HKC HERH o0 o1 o2 o3 o4
            go_upto_region 6 with fail
            rw [← hwK]
            clear hwK
            go_wp2_with fail
            refine HDOC.out.mono ?_
            rintro e w7 ⟨A3, c3, ms, rfl, hms, ⟨hlm, hl3⟩, hga, hb7⟩
            rw [← HKT.out.2.1]
            have L7 := HLK.out.below hb7
            obtain ⟨w8, hw8⟩ : ∃ w8, w8 = w7.alloc (.cells #[.int .i64 x.val, .int .i64 x.err] 30) := ⟨_, rfl⟩
            have hb8 : Below w7.heap.size w7 w8 := by rw [hw8]; exact Cd.fn1 _ _ _
            obtain ⟨w9, hw9⟩ : ∃ w9, w9 = w8.alloc (.cells #[.int .i64 x.val, .int .i64 x.err] 30) := ⟨_, rfl⟩
            have hb9 : Below w8.heap.size w8 w9 := by rw [hw9]; exact Cd.fn1 _ _ _
            have hb79 : Below w7.heap.size w7 w9 := hb8.trans (hb9.mono hb8.size)
            have L9 := L7.below hb79
            have hga7 : Ev.Args (Ev.LOff W B R u' v WA) ms w7 := hga.imp fun i hi ho => by
              rcases ho with h | ⟨q, hq, rfl⟩
              · exact HLK.out.fresh h
              · exact HA2.out q hq
            have hga9 : Ev.Args (Ev.LOff W B R u' v WA) ms w9 := hga7.mv (Gm.Mvg.of_below hb79)
            have hX8 : w8.heap[w7.heap.size]? = some (.cells #[.int .i64 x.val, .int .i64 x.err] 30 (0, 0)) := by rw [hw8]; exact heap_alloc_new w7 _
            have xx0 : w8.cell? ⟨w7.heap.size, 0, none⟩ = some (.int .i64 x.val) := cell_of_row _ _ 0 _ _ _ hX8
            have xx1 : w8.cell? ⟨w7.heap.size, 1, none⟩ = some (.int .i64 x.err) := cell_of_row _ _ 1 _ _ _ hX8
            have H9 : Hid (w9.heap[w8.heap.size]? = some (.cells #[.int .i64 x.val, .int .i64 x.err] 30 (0, 0))) := by show w9.heap[_]? = _; rw [hw9]; exact heap_alloc_new w8 _
            have HL9 := Lib.hid L9
            have HG9 := Lib.hid hga9
            have HM7 := Lib.hid (And.intro hms (And.intro hlm hb79))
            have HO9 : Hid (w9.heap[O]? = some (.cells #[.int .u8 (o.k : Int), .int .i64 o.d, .int .i64 o.a, .int .i64 o.b, .int .i64 o.n] 72 (0, 0)) ∧ Ev.LOff W B R u' v WA O) := by
              have h1 := Cd.ltH HOK.out.1
              exact ⟨(hb79.block O (Nat.lt_of_lt_of_le h1 hb7.size)).trans ((hb7.block O h1).trans HOK.out.1), HOK.out.2⟩
            have hwl : s.wts.length ≤ 100000 := by have h1 := HKJ.out; have h2 := HO.out.1.2.1.kids; omega
            have hrow9 := L9.row
            rw [List.length_map] at hrow9
            have HR9 := Lib.hid hrow9
            have HW9 := Lib.hid hw9
            have hml : ms.length ≤ (s.left - 1) / 2 + 1 := by
              have h1 := Ev.doT_len (Cd.fns l) kt
              rw [← hms, List.length_map, HKT.out.1] at h1
              exact h1
            have hb1m : ds.length + ms.length ≤ 1000000 := by have h1 := HO.out.2; have h2 := HTK.out.fuel; omega
            have HLM : Hid (Lies w9 w9.heap.size A3 (Ev.dcells ms) ∧ ∀ q, A3 = some q → ∀ q2, WA = some q2 → q.block ≠ q2.block) := ⟨(hlm.below hb79).mono hb79.size, fun q hq q2 hq2 => by
              have h1 := hl3 q hq
              have h2 := HLK.out.wlt q2 hq2
              omega⟩
            have HML := Lib.hid hml
            have HB1 := Lib.hid hb1m
            clear hml hb1m hrow9 hw9 hl3
            clear hms hlm hga hb7 L7 hb8 hb9 hb79 L9 hga7 hga9 hX8 p0K kk0 kk1 kk2 kk3 HDOC
            go_upto_region 9 with fail
            rw [← hw8]
            clear hw8
            go_wp2_with (first
              | (at_builtin
                 rw [← HW9.out]
                 refine Ev.rpush (U := w9) HR9.out rfl _ _ rfl rfl rfl x H9.out hwl ?_
                 intro g cap w10 hown hgr hg
                 have hwt := HL9.out.wait (r := x) (g := g) (cap := cap) (w' := w10) (by rw [List.length_map]; exact hown) (by rw [List.length_map]; exact hgr) (by rw [List.length_map]; exact hg)
                 have hga10 := HG9.out.mv ⟨hgr.os, hgr.tape, hgr.output, hgr.size, fun i hi ho => (hwt.2 i hi ho).1, fun i hi ho => (hwt.2 i hi ho).2⟩
                 have hlm10 := Ev.lies_mv (off := fun i => ∀ q2, WA = some q2 → i ≠ q2.block) (off' := fun _ => True) HLM.out.1 (fun _ q hq => HLM.out.2 q hq) ⟨hgr.os, hgr.tape, hgr.output, hgr.size, fun i hi ho => hgr.block i hi (fun e => by
                   cases WA with
                   | none => cases e
                   | some q2 => exact ho q2 rfl (Option.some.inj e)), fun _ _ _ => trivial⟩
                 obtain ⟨v', w11, hrun, hrowD, hgrD, hblD⟩ := Ev.dapp_run w10 v ds.length (Ev.dcells ds) hwt.1.rn.rowv A3 ms c3 hlm10 HB1.out 35
                 obtain ⟨A4, c4, hv4⟩ := Gm.own_form hrowD
                 subst hv4
                 have htl := hwt.1.tell hga10 hrowD hgrD hblD
                 have b11 : w10.cell? ⟨B, 11, none⟩ = some v := hwt.1.rn.cell 11
                 have hBw : w11.heap[B]? = w10.heap[B]? := hgrD.block B hwt.1.rn.ltB (fun e => hwt.1.rn.nv e.symm)
                 have b11' : w11.cell? ⟨B, 11, none⟩ = some v := (World.cell?_of_block (w := w10) hBw).trans b11
                 have f11' : w11.frozen? ⟨B, 11, none⟩ = false := (World.frozen?_of_block (w := w10) hBw).trans (hwt.1.rn.fro 11)
                 have HWT := Lib.hid hwt
                 have HTL := Lib.hid htl
                 have HRUN := Lib.hid hrun
                 clear hown hgr hg hwt hga10 hlm10 hrun hrowD hgrD hblD htl hBw)
              | (at_builtin; refine Ev.dwpl_append_run rfl _ _ rfl rfl rfl HRUN.out ?_))
            go_meet
            have ho10 := HWT.out.2 O (Cd.ltH HO9.out.1) HO9.out.2
            have ho10' := ho10.1.trans HO9.out.1
            have ho12 := HTL.out.2 O (Cd.ltH ho10') ho10.2
            have hfs : Ev.forkS (Cd.fns l) t (Ev.paid s) o = { Ev.rforkS (Ev.paid s) o x with done := (Ev.rforkS (Ev.paid s) o x).done ++ ms.map Ev.Dm.d } := by
              unfold Ev.forkS
              rw [← HKT.out.1, ← HKT.out.2.1, ← HM7.out.1]
              rfl
            have hn := HNX.out
            rw [HKT.out.2.2, if_pos rfl, hfs] at hn
            have hdl := HO.out.2
            have hml := HML.out
            have hkj := HKJ.out
            have hz := HZ0.out
            refine ⟨0, _, _, _, rfl, rfl, u', _, js, ds ++ ms, _, _, cap, _, HTL.out.1, ⟨ho12.1.trans ho10', ho12.2⟩, fun h => by have := HYK.out.2; omega, fun _ => hn, by rw [List.length_append]; omega, HO.out.1.2.1.regs, fun _ _ => ⟨rfl, rfl, ?_, ?_, ?_, ?_⟩⟩
            · show _ = (s.wts ++ [(o.d, x)]).length
              rw [List.length_append]
              rfl
            · show _ = (s.wts ++ [(o.d, x)]).map Prod.snd
              rw [List.map_append]
              rfl
            · show s.kids + 1 = js.length + (s.wts ++ [(o.d, x)]).length
              rw [List.length_append]
              show s.kids + 1 = js.length + (s.wts.length + 1)
              omega
            · show (ds ++ ms).length + ((s.left - 1) - (s.left - 1) / 2) ≤ t.fuel
              rw [List.length_append]
              omega
      case rest =>
        rename World => V3
        obtain ⟨er2, WA2, n2, wc2, rfl, rfl, HM2⟩ := hcut
        clear HLV HOV o0 HER HSS HB29
        have o0 : V3.cell? ⟨O, 0, none⟩ = some (.int .u8 (o.k : Int)) := by
          obtain ⟨_, _, _, _, _, _, _, _, _, ho, _⟩ := HM2.out
          exact cell_of_row _ _ 0 _ _ _ ho.1
        go_upto_region 11 with fail
        go_cut [69] (fun s69 wx => s69 = .bool (decide (er2 = 0 ∧ (o.k = 13 ∨ o.k = 14))) ∧ wx = V3)
        case first =>
          by_cases e : er2 = 0
          · have e0 : (er2 == 0) = true := by simpa using e
            by_cases k3 : o.k = 13
            · have HD : Hid (decide (er2 = 0 ∧ (o.k = 13 ∨ o.k = 14)) = true) := decide_eq_true ⟨e, .inl k3⟩
              have k0 : ((o.k : Int) == 13) = true := by simp; omega
              clear e k3
              go_wp2_with fail
              go_meet
              exact ⟨by rw [HD.out], rfl⟩
            · have k0 : ((o.k : Int) == 13) = false := by simp; omega
              by_cases k4 : o.k = 14
              · have HD : Hid (decide (er2 = 0 ∧ (o.k = 13 ∨ o.k = 14)) = true) := decide_eq_true ⟨e, .inr k4⟩
                have k1 : ((o.k : Int) == 14) = true := by simp; omega
                clear e k3 k4
                go_wp2_with fail
                go_meet
                exact ⟨by rw [HD.out], rfl⟩
              · have HD : Hid (decide (er2 = 0 ∧ (o.k = 13 ∨ o.k = 14)) = false) := decide_eq_false fun h => by omega
                have k1 : ((o.k : Int) == 14) = false := by simp; omega
                clear e k3 k4
                go_wp2_with fail
                go_meet
                exact ⟨by rw [HD.out], rfl⟩
          · have HD : Hid (decide (er2 = 0 ∧ (o.k = 13 ∨ o.k = 14)) = false) := decide_eq_false fun h => e h.1
            have e0 : (er2 == 0) = false := by simpa using e
            clear e
            go_wp2_with fail
            go_meet
            exact ⟨by rw [HD.out], rfl⟩
        case rest =>
          rename World => V4
          obtain ⟨rfl, rfl⟩ := hcut
          generalize hb69 : decide (er2 = 0 ∧ (o.k = 13 ∨ o.k = 14)) = b69
          have HB69 := Lib.hid hb69
          clear hb69 o0
          go_upto_if 69 with fail
          go_cut [7, 9] (fun s7 s9 wx => ∃ (er3 : Int) (WA3 : Option Addr) (n3 wc3 : Nat), s7 = .slice WA3 n3 wc3 ∧ s9 = .int .i64 er3 ∧ Hid (Ev.RMid false W (.slice PA l.length pc) t A c B R (Cd.fns l) o s O er3 WA3 n3 wc3 wx))
          case first =>
            cases b69 with
            | false =>
              have HM : Hid (Ev.RMid false W (.slice PA l.length pc) t A c B R (Cd.fns l) o s O er2 WA2 n2 wc2 V4) := by
                obtain ⟨u2, v2, js2, ds2, s2, WA', wc', l2, h1, h2, h3, h4, h5, h6, h7⟩ := HM2.out
                have hno : ¬ (er2 = 0 ∧ (o.k = 13 ∨ o.k = 14)) := of_decide_eq_false HB69.out
                exact ⟨u2, v2, js2, ds2, s2, WA', wc', l2, h1, h2, (fun h => by cases h.1), (fun _ => h4 fun h => hno h.2), h5, h6, fun e hk => h7 e (.inl rfl)⟩
              go_wp2_with fail
              go_meet
              exact ⟨er2, WA2, n2, wc2, rfl, rfl, HM.out⟩
            | true =>
              have hyes : er2 = 0 ∧ (o.k = 13 ∨ o.k = 14) := of_decide_eq_true HB69.out
              obtain ⟨u2, v2, js2, ds2, s2, WA', wc', l2, h1, h2, h3, -, h5, h6, h7⟩ := HM2.out
              obtain ⟨hs2, hz⟩ := h3 ⟨rfl, hyes⟩
              obtain ⟨rfl, rfl, rfl, rfl, hki, hdl⟩ := h7 hyes.1 (.inl rfl)
              have hok := HO.out.1.2.1
              have hj := rJoined13 h1.rn WA2 wc2 h1.lies (fun q hq => (h1.woff q hq).1) hki (by rw [hs2]; exact hok.kids) (by rw [hs2]; exact hok.wreg)
              have hnx := HNXA.out hz HO.out.1.2.2.1
              have hHM : ∀ w', Ev.RJoinP B R (.slice PA l.length pc) u2 v2 t A c js2 ds2 s2 V4 (.returned (.int .i64 (Ev.kidsE s2.wts))) w' → Ev.RMid false W (.slice PA l.length pc) t A c B R (Cd.fns l) o s O (Ev.kidsE s2.wts) none 0 0 w' := by
                intro w' ⟨_, j1, j2, jm⟩
                have hOst := Ev.stay_mv (w0 := W) (WA := WA2) jm O (Cd.ltH h2.1) h2.2
                have ho2 : w'.heap[O]? = some (.cells #[.int .u8 (o.k : Int), .int .i64 o.d, .int .i64 o.a, .int .i64 o.b, .int .i64 o.n] 72 (0, 0)) ∧ Ev.LOff W B R u2 v2 none O := ⟨hOst.1.trans h2.1, hOst.2.1, hOst.2.2.1, fun q hq => by cases hq⟩
                unfold Ev.actE Ev.actS at hnx
                rw [if_neg (by omega), if_pos hyes.2, if_neg (by omega), if_pos hyes.2, ← hs2] at hnx
                by_cases hke : Ev.kidsE s2.wts = 0
                · have hrl := (h1.mv (j2 hke) jm).clear
                  exact ⟨u2, v2, _, ds2, Ev.joinS s2, none, 0, [], hrl, ho2, (fun h => by cases h.1), (fun _ => hnx), h5, by rw [← h6]; show ((Ev.joined s2.wts s2.regs).length : Int) = _; rw [Ev.joined_len], fun _ _ => ⟨rfl, rfl, rfl, rfl, by show s2.kids = _; rw [hki, List.length_append, List.length_map]; rfl, hdl⟩⟩
                · have hrl := (h1.mv (j1 hke) jm).clear
                  exact ⟨u2, v2, _, ds2, s2, none, 0, [], hrl, ho2, (fun h => by cases h.1), (fun _ => ⟨fun e => hnx.1 e, fun e => absurd e hke, fun e => absurd e hke⟩), h5, h6, fun e => absurd e hke⟩
              have HHM := Lib.hid hHM
              have HJ := Lib.hid hj
              clear h1 h2 h3 h5 h6 h7 hs2 hz hki hdl hok hnx hHM hj hyes
              go_wp2_with fail
              refine HJ.out.mono ?_
              rintro e w6 hjp
              obtain rfl := hjp.1
              have HM := Lib.hid (HHM.out w6 hjp)
              clear hjp HHM HJ
              go_wp2_with fail
              go_meet
              exact ⟨_, none, 0, 0, rfl, rfl, HM.out⟩
          case rest =>
            rename World => V5
            obtain ⟨er3, WA3, n3, wc3, rfl, rfl, HM3⟩ := hcut
            clear HM2 HB69 HNXA
            have o0 : V5.cell? ⟨O, 0, none⟩ = some (.int .u8 (o.k : Int)) := by
              obtain ⟨_, _, _, _, _, _, _, _, _, ho, _⟩ := HM3.out
              exact cell_of_row _ _ 0 _ _ _ ho.1
            go_upto_region 14 with fail
            go_cut [79] (fun s79 wx => s79 = .bool (decide (er3 ≠ 0 ∨ o.k = 14)) ∧ wx = V5)
            case first =>
              by_cases e : er3 = 0
              · have e0 : (er3 == 0) = true := by simpa using e
                have e1 : (er3 != 0) = false := by simpa using e
                by_cases k4 : o.k = 14
                · have HD : Hid (decide (er3 ≠ 0 ∨ o.k = 14) = true) := decide_eq_true (.inr k4)
                  have k1 : ((o.k : Int) == 14) = true := by simp; omega
                  clear e k4
                  go_wp2_with fail
                  go_meet
                  exact ⟨by rw [HD.out], rfl⟩
                · have HD : Hid (decide (er3 ≠ 0 ∨ o.k = 14) = false) := decide_eq_false fun h => by omega
                  have k1 : ((o.k : Int) == 14) = false := by simp; omega
                  clear e k4
                  go_wp2_with fail
                  go_meet
                  exact ⟨by rw [HD.out], rfl⟩
              · have HD : Hid (decide (er3 ≠ 0 ∨ o.k = 14) = true) := decide_eq_true (.inl e)
                have e0 : (er3 == 0) = false := by simpa using e
                have e1 : (er3 != 0) = true := by simpa using e
                clear e
                go_wp2_with fail
                go_meet
                exact ⟨by rw [HD.out], rfl⟩
            case rest =>
              rename World => V6
              obtain ⟨rfl, rfl⟩ := hcut
              generalize hb79 : decide (er3 ≠ 0 ∨ o.k = 14) = b79
              have HB79 := Lib.hid hb79
              clear hb79 o0
              cases b79 with
              | false =>
                obtain ⟨u2, v2, js2, ds2, s2, WA', wc', l2, h1, -, -, h4, -, -, h7⟩ := HM3.out
                have hno : ¬ (er3 ≠ 0 ∨ o.k = 14) := of_decide_eq_false HB79.out
                have e3 : er3 = 0 := by omega
                obtain ⟨rfl, rfl, rfl, rfl, hki, hdl⟩ := h7 e3 (.inr (by omega))
                obtain ⟨g1, g2, g3⟩ := (h4 (fun h => by cases h.1)).2.2 e3 (by omega)
                have hlt := HO.out.1.2.2.2.2
                have HC := Lib.hid (And.intro h1 (And.intro g2 (And.intro g1 (And.intro hki (And.intro hdl g3)))))
                clear h1 h4 h7 g1 g2 g3 hki hdl hno e3
                go_wp2_with fail
                go_roundg s2.left
                case measure => have := HC.out.2.2.2.2.2; omega
                case rel => exact ⟨u2, v2, js2, ds2, s2, WA3, wc3, rfl, rfl, ⟨HC.out.1, HC.out.2.1, HC.out.2.2.1, HC.out.2.2.2.1, by have := HC.out.2.2.2.2.2; omega⟩, HC.out.2.2.2.2.1⟩
              | true =>
                obtain ⟨u2, v2, js2, ds2, s2, WA', wc', l2, hlx, hox, -, h4, hdl, hrl, -⟩ := HM3.out
                have hyes : er3 ≠ 0 ∨ o.k = 14 := of_decide_eq_true HB79.out
                obtain ⟨r, hr⟩ : ∃ r : Ev.Res, r = ⟨if er3 = 0 then Ev.rgAt s2.regs o.a else 0, er3⟩ := ⟨_, rfl⟩
                have hdo : Ev.doT (Cd.fns l) t = Ev.fin t s2 r := by
                  have hn := h4 (fun h => by cases h.1)
                  by_cases e : er3 = 0
                  · rw [hr, if_pos e, e]
                    exact hn.2.1 e (by omega)
                  · rw [hr, if_neg e]
                    exact hn.1 e
                obtain ⟨V7, hV7⟩ : ∃ V7, V7 = V6.alloc (.cells #[.int .i64 0, .int .i64 er3] 30) := ⟨_, rfl⟩
                have hb7 : Below V6.heap.size V6 V7 := by rw [hV7]; exact Cd.fn1 _ _ _
                obtain ⟨X, hX⟩ : ∃ X, X = V6.heap.size := ⟨_, rfl⟩
                have hx7 : V7.heap[X]? = some (.cells #[.int .i64 0, .int .i64 er3] 30 (0, 0)) := by rw [hV7, hX]; exact heap_alloc_new V6 _
                have HLX := Lib.hid hlx
                have HDO := Lib.hid hdo
                have HX7 := Lib.hid (And.intro hx7 (And.intro hb7 (And.intro hX ((hb7.block _ (Cd.ltH hox.1)).trans hox.1))))
                have HRR := Lib.hid (And.intro hr (And.intro hdl hrl))
                clear hlx hox h4 hdl hdo hr hb7 hx7 hrl HM3 HPW
                go_upto_if 83 with fail
                try rw [← hV7]
                try rw [← hX]
                clear hV7 hX
                go_cut [9] (fun s9 wz => s9 = .int .i64 er3 ∧ Hid (Below V6.heap.size V6 wz ∧ wz.heap[X]? = some (.cells #[.int .i64 r.val, .int .i64 r.err] 30 (0, 0))))
                case first =>
                  by_cases e : er3 = 0
                  · have e0 : (er3 == 0) = true := by simpa using e
                    have h14 : o.k = 14 := by omega
                    obtain ⟨d, a, b, -, ha, -, -, -, -⟩ := HGO.out.1.nat
                    have har : a < s2.regs.length := by
                      have h1 := HGO.out.1.a (by rw [h14]; rfl) (by omega)
                      have h2 := HRR.out.2.2
                      omega
                    have hn7 := HLX.out.rn.below HX7.out.2.1
                    have b5 : V7.cell? ⟨B, 5, none⟩ = some (.slice (some ⟨R, 0, none⟩) s2.regs.length s2.regs.length) := hn7.cell 5
                    have o2 : V7.cell? ⟨O, 2, none⟩ = some (.int .i64 (a : Int)) := by rw [← ha]; exact cell_of_row _ _ 2 _ _ _ HX7.out.2.2.2
                    have rc := hn7.reg har
                    have x0 : V7.cell? ⟨X, 0, none⟩ = some (.int .i64 0) := cell_of_row _ _ 0 _ _ _ HX7.out.1
                    have xf := frozen_of_row _ _ 0 _ _ HX7.out.1
                    have a0 : (0 : Int) ≤ (a : Int) := by omega
                    have a1 : (a : Int) < (s2.regs.length : Int) := by omega
                    have HV : Hid (r.val = s2.regs[a] ∧ r.err = er3) := by
                      rw [HRR.out.1]
                      refine ⟨?_, rfl⟩
                      show (if er3 = 0 then _ else _) = _
                      rw [if_pos e, ha]
                      exact Ev.rgAt_nat har
                    generalize s2.regs[a] = y at rc HV
                    clear hn7 ha h14 e har
                    go_upto_region 17 with fail
                    go_region
                    go_wp2_with fail
                    go_meet
                    refine ⟨rfl, (HX7.out.2.1.setCell (by rw [HX7.out.2.2.1]; exact Nat.le_refl _) _).drew, ?_⟩
                    show (V7.setCell ⟨X, 0, none⟩ (.int .i64 y)).heap[X]? = _
                    rw [heap_setCell_same _ _ _ _ _ _ HX7.out.1, HV.out.1, HV.out.2]
                    rfl
                  · have e0 : (er3 == 0) = false := by simpa using e
                    have HV : Hid (r.val = 0 ∧ r.err = er3) := by
                      rw [HRR.out.1]
                      exact ⟨if_neg e, rfl⟩
                    clear e
                    go_wp2_with fail
                    go_meet
                    refine ⟨rfl, HX7.out.2.1, ?_⟩
                    rw [HV.out.1, HV.out.2]
                    exact HX7.out.1
                case rest =>
                  rename World => wy
                  obtain ⟨rfl, HXY⟩ := hcut
                  have hlx := HLX.out
                  have hdo := HDO.out
                  have hX := HXY.out.2
                  have hby := HXY.out.1
                  have hdl := HRR.out.2.1
                  have hfu := HTK.out.fuel
                  obtain ⟨VA, vc, hv⟩ := Ev.own_slice hlx.rn.rowv
                  subst hv
                  have hDy := (HB.out.below hlx.bel).below hby
                  have hny := hlx.rn.below hby
                  obtain ⟨U, hU⟩ : ∃ U, U = (wy.alloc (.cells (Ev.dM t r s2.kids A c).cells.toArray 96)).drew := ⟨_, rfl⟩
                  have hbU : Below wy.heap.size wy U := by rw [hU]; exact (Cd.fn1 _ _ _).drew
                  obtain ⟨v', w7, hrun, hrow, hgr, hbl⟩ := Ev.dapp_run U (.slice (some ⟨wy.heap.size, 0, none⟩) 1 1) 1 (Ev.dcells [Ev.dM t r s2.kids A c]) (Ev.own_one (by rw [hU]; exact heap_alloc_new wy _)) VA ds2 vc (((Ev.dlies13 hny.rowv).below hbU).mono hbU.size) (by omega) 35
                  obtain ⟨A2, c2, hv'⟩ := Gm.own_form hrow
                  subst hv'
                  have HFIN := Lib.hid (Ev.doEnd HB.out hlx HLI.out hdo hby hU hrow hgr hbl)
                  have hk7 : ∀ (i : Nat) (ob : Obj), wy.heap[i]? = some ob → w7.heap[i]? = some ob := fun i ob hh => by
                    have h1 := Cd.ltH hh
                    rw [hgr.block i (Nat.lt_of_lt_of_le h1 hbU.size) (fun e => by have e2 : i = wy.heap.size := Option.some.inj e; omega), hbU.block i h1]
                    exact hh
                  have HRUN : Hid ((Builtin.append_ #[35, 35] 35 #[.slice (some ⟨wy.heap.size, 0, none⟩) 1 1, .slice VA ds2.length vc]).run Tryz.prog ((wy.alloc (.cells #[.string t.path, .int .i64 t.fn, .slice A t.args.length c, .int .i64 (t.fuel : Int), .int .i64 r.val, .int .i64 r.err, .int .i64 (s2.kids : Int)] 96)).drew) = .ok (.slice A2 (1 + ds2.length) c2) w7) := by rw [hU] at hrun; exact hrun
                  have x0 : wy.cell? ⟨X, 0, none⟩ = some (.int .i64 r.val) := cell_of_row _ _ 0 _ _ _ hX
                  have x1 : wy.cell? ⟨X, 1, none⟩ = some (.int .i64 r.err) := cell_of_row _ _ 1 _ _ _ hX
                  have t0 : wy.cell? ⟨T0, 0, none⟩ = some (.string t.path) := cell_of_row _ _ 0 _ _ _ hDy.tt
                  have t1 : wy.cell? ⟨T0, 1, none⟩ = some (.int .i64 t.fn) := cell_of_row _ _ 1 _ _ _ hDy.tt
                  have t2 : wy.cell? ⟨T0, 2, none⟩ = some (.slice A t.args.length c) := cell_of_row _ _ 2 _ _ _ hDy.tt
                  have t3 : wy.cell? ⟨T0, 3, none⟩ = some (.int .i64 (t.fuel : Int)) := cell_of_row _ _ 3 _ _ _ hDy.tt
                  have b8 : wy.cell? ⟨B, 8, none⟩ = some (.int .i64 (s2.kids : Int)) := hny.cell 8
                  have b11 : wy.cell? ⟨B, 11, none⟩ = some (.slice VA ds2.length vc) := hny.cell 11
                  have hX7 := hk7 X _ hX
                  have hZ7 := hk7 Z _ hDy.zz
                  have z0 : w7.cell? ⟨Z, 0, none⟩ = some (.int .i64 0) := cell_of_row _ _ 0 _ _ _ hZ7
                  have z1 : w7.cell? ⟨Z, 1, none⟩ = some (.int .i64 0) := cell_of_row _ _ 1 _ _ _ hZ7
                  have zf0 := frozen_of_row _ _ 0 _ _ hZ7
                  have zf1 := frozen_of_row _ _ 1 _ _ hZ7
                  have HZ := Lib.hid (Ev.set2_heap (x := .int .i64 r.val) (y := .int .i64 r.err) hZ7)
                  have HRS := Lib.hid Ev.res_size
                  have hT7 := hk7 T0 _ hDy.tt
                  have hB7 := hk7 B _ hny.obj
                  have S0 : Hid (Ev.DS X T0 B r t A c s2.kids VA ds2.length vc wy) := ⟨⟨x0, x1⟩, ⟨t0, t1, t2, t3⟩, b8, b11⟩
                  have SA : Hid (∀ x, Ev.DS X T0 B r t A c s2.kids VA ds2.length vc (wy.alloc x)) := fun x => S0.out.mv (Below.heap_alloc _ _ _ (Cd.ltH hX)) (Below.heap_alloc _ _ _ (Cd.ltH hDy.tt)) (Below.heap_alloc _ _ _ (Cd.ltH hny.obj))
                  have S7 : Hid (Ev.DS X T0 B r t A c s2.kids VA ds2.length vc w7) := S0.out.mv (hX7.trans hX.symm) (hT7.trans hDy.tt.symm) (hB7.trans hny.obj.symm)
                  have hZX : X ≠ Z := by have := HX7.out.2.2.1; have := hlx.bel.size; have := Cd.ltH HB.out.zz; omega
                  have hZB : B ≠ Z := fun e => (hlx.lo Z (Cd.ltH HB.out.zz)).1 e.symm
                  have hZT : T0 ≠ Z := fun e => by
                    have h1 := HB.out.tt
                    rw [e, HB.out.zz] at h1
                    simp at h1
                  have SZ : Hid (∀ a b, Ev.DS X T0 B r t A c s2.kids VA ds2.length vc ((w7.setCell ⟨Z, 0, none⟩ a).setCell ⟨Z, 1, none⟩ b)) := fun a b => S7.out.mv ((Below.heap_setCell _ _ _ _ hZX).trans (Below.heap_setCell _ _ _ _ hZX)) ((Below.heap_setCell _ _ _ _ hZT).trans (Below.heap_setCell _ _ _ _ hZT)) ((Below.heap_setCell _ _ _ _ hZB).trans (Below.heap_setCell _ _ _ _ hZB))
                  clear hby hX hDy hny hU hbU hrun hrow hgr hbl hk7 hZ7 hX7 hT7 hB7 hlx hdo hdl hfu hZX hZB hZT HLX HDO HXY HX7 HRR HGO HO HBW HIH HG HPR HTK HB HLI HN HFN HST HB79 hyes
                  go_upto_region 18 with fail
                  go_region_held_law (fun w => (w.cell? ⟨X, 0, none⟩ = some (.int .i64 r.val) ∧ w.cell? ⟨X, 1, none⟩ = some (.int .i64 r.err)) ∧
  (w.cell? ⟨T0, 0, none⟩ = some (.string t.path) ∧ w.cell? ⟨T0, 1, none⟩ = some (.int .i64 t.fn) ∧ w.cell? ⟨T0, 2, none⟩ = some (.slice A t.args.length c) ∧ w.cell? ⟨T0, 3, none⟩ = some (.int .i64 (t.fuel : Int))) ∧
  w.cell? ⟨B, 8, none⟩ = some (.int .i64 (s2.kids : Int)) ∧ w.cell? ⟨B, 11, none⟩ = some (.slice VA ds2.length vc))
                    (first | with_reducible exact S0.out | with_reducible exact S7.out | exact SA.out _ | exact S0.out | exact S7.out | exact SZ.out _ _)
                    (first
                      | (refine Ev.dstep_append_run (by rfl) _ _ (by rfl) (by rfl) (by rfl) HRUN.out ?_))
                  all_goals
                    go_wp2_with fail
                    refine bodyPost_ret (v := .tuple #[.agg #[.int .i64 r.val, .int .i64 r.err], .slice A2 (1 + ds2.length) c2]) (Cd.results_ct Tryz.results35 _ _ Z 30 #[.int .i64 r.val, .int .i64 r.err] (0, 0) _ rfl HZ.out Tryz.underlying30 rfl HRS.out _ rfl) rfl ?_
                    exact HFIN.out
end Go.Proofs.YtepnofklmdofmaaGreatDoor
