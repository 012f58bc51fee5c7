/-
  Layer 14: the contracts of done, end, fail, lacks.
  Layer 14: the contract of a frame's join.
-/
import Derived.Test.YtnlhacgihmelhaaGreatDoorLowVmB
import Derived.Deep.RegionHeld3
import Derived.StillTailTactics
section
namespace Go.Proofs.YtnlhacgihmelhaaGreatDoor
open Go.RowKit

namespace Vm
open Cd Ev
theorem LOk.nil (off : Nat → Prop) (w : World) (A : Option Addr) : LOk off w A [] := ⟨fun h => absurd h (by simp), fun h => absurd rfl h⟩
theorem icells_nil : icells [] = [] := rfl
def zst : Array Value := #[.int .u8 0, .string ⟨#[]⟩, .int .i64 0, .slice none 0 0, .int .i64 0, .int .i64 0, .int .i64 0]
/-- The cells of a block that a stop will be told in. -/
structure ZB (Y : Nat) (w : World) : Prop where
  row : w.heap[Y]? = some (.cells #[.int .u8 0, .string ⟨#[]⟩, .int .i64 0, .slice none 0 0, .int .i64 0, .int .i64 0, .int .i64 0] 59 (0, 0))
section
variable {Y : Nat} {w : World}
theorem ZB.lt (h : ZB Y w) : Y < w.heap.size := ltH h.row
theorem ZB.c (h : ZB Y w) (j : Nat) : w.cell? ⟨Y, j, none⟩ = (#[Value.int .u8 0, .string ⟨#[]⟩, .int .i64 0, .slice none 0 0, .int .i64 0, .int .i64 0, .int .i64 0] : Array Value)[j]? := cell_of_row _ _ j _ _ _ h.row
theorem ZB.f (h : ZB Y w) (j : Nat) : w.frozen? ⟨Y, j, none⟩ = false := frozen_of_row _ _ j _ _ h.row
theorem ZB.mv {off off' : Nat → Prop} {w' : World} (h : ZB Y w) (m : Gm.Mvg off off' w w') (ho : off Y) : ZB Y w' := ⟨(m.block Y h.lt ho).trans h.row⟩
theorem ZB.below {w' : World} (h : ZB Y w) (hb : Below w.heap.size w w') : ZB Y w' := ⟨(hb.block Y h.lt).trans h.row⟩
/-- All of them, as a walk asks for them. -/
theorem ZB.all (h : ZB Y w) : (w.cell? ⟨Y, 0, none⟩ = some (.int .u8 0) ∧ w.cell? ⟨Y, 1, none⟩ = some (.string ⟨#[]⟩) ∧ w.cell? ⟨Y, 2, none⟩ = some (.int .i64 0) ∧ w.cell? ⟨Y, 3, none⟩ = some (.slice none 0 0) ∧ w.cell? ⟨Y, 4, none⟩ = some (.int .i64 0) ∧ w.cell? ⟨Y, 5, none⟩ = some (.int .i64 0) ∧ w.cell? ⟨Y, 6, none⟩ = some (.int .i64 0)) ∧
    w.frozen? ⟨Y, 0, none⟩ = false ∧ w.frozen? ⟨Y, 1, none⟩ = false ∧ w.frozen? ⟨Y, 2, none⟩ = false ∧ w.frozen? ⟨Y, 3, none⟩ = false ∧ w.frozen? ⟨Y, 4, none⟩ = false ∧ w.frozen? ⟨Y, 5, none⟩ = false ∧ w.frozen? ⟨Y, 6, none⟩ = false :=
  ⟨⟨h.c 0, h.c 1, h.c 2, h.c 3, h.c 4, h.c 5, h.c 6⟩, h.f 0, h.f 1, h.f 2, h.f 3, h.f 4, h.f 5, h.f 6⟩
theorem ZB.ret (h : ZB Y w) (x y z u v s t : Value) : (set7 w Y x y z u v s t).heap[Y]? = some (.cells #[x, y, z, u, v, s, t] 59 (0, 0)) := set7_heap h.row
end
def DoneP (r : Res) (w : World) (e : Ending) (w' : World) : Prop := e = .returned (.agg #[.int .u8 4, .string ⟨#[]⟩, .int .i64 0, .slice none 0 0, .int .i64 0, .int .i64 r.val, .int .i64 r.err]) ∧ Below w.heap.size w w'
end Vm

set_option maxHeartbeats 1000000 in
set_option maxRecDepth 20000 in
theorem vdone {K : Nat → Prop} {b : Vm.Bk} {p : List Cd.FnV} {t : Ev.Tsk} {s : Vm.Fs} {w : World} (h : Vm.Hf K b p t s w) :
    Calls Tryz.prog 65 #[.pointer (some ⟨b.F, 0, none⟩)] w (Vm.DoneP s.came w) := by
  obtain ⟨W, hW⟩ : ∃ W, W = w.alloc (.cells #[.int .u8 0, .string ⟨#[]⟩, .int .i64 0, .slice none 0 0, .int .i64 0, .int .i64 0, .int .i64 0] 59) := ⟨_, rfl⟩
  have hZ : Vm.ZB w.heap.size W := ⟨by rw [hW]; exact heap_alloc_new w _⟩
  have hb : Below w.heap.size w W := by rw [hW]; exact Cd.fn1 _ _ _
  have hF := h.fr.below hb
  have c13 : W.cell? ⟨b.F, 13, none⟩ = some (.int .i64 s.came.val) := hF.cell 13
  have c14 : W.cell? ⟨b.F, 14, none⟩ = some (.int .i64 s.came.err) := hF.cell 14
  have HI : Hid ((Tryz.prog.info? 59).map (·.size) = some 7) := Vm.stp_size
  have HRW := Lib.hid (hZ.ret (.int .u8 4) (.string ⟨#[]⟩) (.int .i64 0) (.slice none 0 0) (.int .i64 0) (.int .i64 s.came.val) (.int .i64 s.came.err))
  have HFIN : Hid (Vm.DoneP s.came w (.returned (.agg #[.int .u8 4, .string ⟨#[]⟩, .int .i64 0, .slice none 0 0, .int .i64 0, .int .i64 s.came.val, .int .i64 s.came.err])) (Vm.set7 W w.heap.size (.int .u8 4) (.string ⟨#[]⟩) (.int .i64 0) (.slice none 0 0) (.int .i64 0) (.int .i64 s.came.val) (.int .i64 s.came.err))) := ⟨rfl, Vm.set7_below hb (Nat.le_refl _) _ _ _ _ _ _ _⟩
  have y0 : W.cell? ⟨w.heap.size, 0, none⟩ = some (.int .u8 0) := hZ.c 0
  have y1 : W.cell? ⟨w.heap.size, 1, none⟩ = some (.string ⟨#[]⟩) := hZ.c 1
  have y2 : W.cell? ⟨w.heap.size, 2, none⟩ = some (.int .i64 0) := hZ.c 2
  have y3 : W.cell? ⟨w.heap.size, 3, none⟩ = some (.slice none 0 0) := hZ.c 3
  have y4 : W.cell? ⟨w.heap.size, 4, none⟩ = some (.int .i64 0) := hZ.c 4
  have y5 : W.cell? ⟨w.heap.size, 5, none⟩ = some (.int .i64 0) := hZ.c 5
  have y6 : W.cell? ⟨w.heap.size, 6, none⟩ = some (.int .i64 0) := hZ.c 6
  have yf0 := hZ.f 0
  have yf1 := hZ.f 1
  have yf2 := hZ.f 2
  have yf3 := hZ.f 3
  have yf4 := hZ.f 4
  have yf5 := hZ.f 5
  have yf6 := hZ.f 6
  clear hZ hb hF h
  go_enter Tryz.func65, Tryz.ntmps65
  go_upto_region 1 with fail
  rw [← hW]
  clear hW
  obtain ⟨Y, hYe⟩ : ∃ Y, Y = w.heap.size := ⟨_, rfl⟩
  rw [← hYe] at HRW HFIN y0 y1 y2 y3 y4 y5 y6 yf0 yf1 yf2 yf3 yf4 yf5 yf6 ⊢
  clear hYe
  go_wp2_with fail
  refine bodyPost_ret (v := .agg #[.int .u8 4, .string ⟨#[]⟩, .int .i64 0, .slice none 0 0, .int .i64 0, .int .i64 s.came.val, .int .i64 s.came.err]) (results_cell_row Tryz.results65 _ _ Y 59 #[.int .u8 4, .string ⟨#[]⟩, .int .i64 0, .slice none 0 0, .int .i64 0, .int .i64 s.came.val, .int .i64 s.came.err] (0, 0) _ rfl HRW.out Tryz.underlying59 rfl HI.out) rfl ?_
  exact HFIN.out

set_option maxHeartbeats 2000000 in
set_option maxRecDepth 20000 in
theorem vend {K : Nat → Prop} {b : Vm.Bk} {p : List Cd.FnV} {t : Ev.Tsk} {s : Vm.Fs} {w : World} (h : Vm.Hf K b p t s w) (r : Ev.Res) :
    Calls Tryz.prog 98 #[.pointer (some ⟨b.F, 0, none⟩), .agg #[.int .i64 r.val, .int .i64 r.err]] w (Vm.OutP K b p t (Vm.endW s r) w) := by
  obtain ⟨V, hV⟩ : ∃ V, V = w.alloc (.cells #[.int .i64 r.val, .int .i64 r.err] 30) := ⟨_, rfl⟩
  obtain ⟨W, hW⟩ : ∃ W, W = V.alloc (.cells #[.int .u8 0, .string ⟨#[]⟩, .int .i64 0, .slice none 0 0, .int .i64 0, .int .i64 0, .int .i64 0] 59) := ⟨_, rfl⟩
  have hb1 : Below w.heap.size w V := by rw [hV]; exact Cd.fn1 _ _ _
  have hs1 : V.heap.size = w.heap.size + 1 := by rw [hV]; simp
  have hb2 : Below V.heap.size V W := by rw [hW]; exact Cd.fn1 _ _ _
  have hb : Below w.heap.size w W := hb1.trans (hb2.mono hb1.size)
  have hZ : Vm.ZB V.heap.size W := ⟨by rw [hW]; exact heap_alloc_new V _⟩
  have hR : W.heap[w.heap.size]? = some (.cells #[.int .i64 r.val, .int .i64 r.err] 30 (0, 0)) := (hb2.block _ (by omega)).trans (by rw [hV]; exact heap_alloc_new w _)
  have hN : Vm.Hf (fun i => K i ∧ i ≠ V.heap.size) b p t s W := by rw [hW]; exact (h.below hb1).at_new _
  obtain ⟨n1, m1⟩ := hN.setF { s with over := true } 12 (.bool true) rfl rfl rfl
  obtain ⟨n2, m2⟩ := n1.setF { s with over := true, came := ⟨r.val, s.came.err⟩ } 13 (.int .i64 r.val) rfl rfl rfl
  obtain ⟨n3, m3⟩ := n2.setF (Vm.endW s r).2 14 (.int .i64 r.err) rfl rfl rfl
  obtain ⟨U, hU⟩ : ∃ U, U = ((W.setCell ⟨b.F, 12, none⟩ (.bool true)).setCell ⟨b.F, 13, none⟩ (.int .i64 r.val)).setCell ⟨b.F, 14, none⟩ (.int .i64 r.err) := ⟨_, rfl⟩
  rw [← hU] at n3 m3
  have HM : Hid (Gm.Mvg (Vm.KOff b) (Vm.KOff b) W U) := m1.trans (m2.trans m3)
  have HN3 := Lib.hid n3
  have HDN := Lib.hid (vdone n3.drew)
  have HZU := Lib.hid (hZ.mv HM.out (h.fr.lt _ hb1.size))
  have HB := Lib.hid hb
  have HKF := Lib.hid h.fresh
  have c12 : W.cell? ⟨b.F, 12, none⟩ = some (.bool s.over) := hN.fr.cell 12
  have c13 : W.cell? ⟨b.F, 13, none⟩ = some (.int .i64 s.came.val) := hN.fr.cell 13
  have c14 : W.cell? ⟨b.F, 14, none⟩ = some (.int .i64 s.came.err) := hN.fr.cell 14
  have f12 := hN.fr.fro 12
  have f13 := hN.fr.fro 13
  have f14 := hN.fr.fro 14
  have r0 : W.cell? ⟨w.heap.size, 0, none⟩ = some (.int .i64 r.val) := cell_of_row _ _ 0 _ _ _ hR
  have r1 : W.cell? ⟨w.heap.size, 1, none⟩ = some (.int .i64 r.err) := cell_of_row _ _ 1 _ _ _ hR
  have HI : Hid ((Tryz.prog.info? 59).map (·.size) = some 7) := Vm.stp_size
  have HYS : Hid (w.heap.size ≤ V.heap.size) := hb1.size
  clear hb1 hb2 hb hZ hR hN n1 m1 n2 m2 n3 m3 h
  go_enter Tryz.func98, Tryz.ntmps98
  go_upto_region 1 with fail
  rw [← hV, ← hs1, ← hW]
  clear hV hW hs1
  obtain ⟨Y, hYe⟩ : ∃ Y, Y = V.heap.size := ⟨_, rfl⟩
  rw [← hYe] at HZU HN3 HYS ⊢
  clear hYe
  obtain ⟨Z, hZe⟩ : ∃ Z, Z = w.heap.size := ⟨_, rfl⟩
  rw [← hZe] at r0 r1 ⊢
  clear hZe
  go_region
  go_upto_region 2 with fail
  rw [← hU]
  clear hU c12 c13 c14 f12 f13 f14 r0 r1
  go_wp2_with fail
  refine HDN.out.mono ?_
  rintro e w4 ⟨rfl, hb4⟩
  have hb5 : Below U.heap.size U w4 := (Below.refl _ _).drew.trans hb4
  have hZ4 := HZU.out.below hb5
  have HRW := Lib.hid (hZ4.ret (.int .u8 4) (.string ⟨#[]⟩) (.int .i64 0) (.slice none 0 0) (.int .i64 0) (.int .i64 (Vm.endW s r).2.came.val) (.int .i64 (Vm.endW s r).2.came.err))
  have HFIN := Lib.hid (Vm.OutP.ret (k := 4) (pa := ⟨#[]⟩) (fn := 0) (A := none) (n := 0) (c := 0) (fu := 0) (va := (Vm.endW s r).2.came.val) (er := (Vm.endW s r).2.came.err) (x := Vm.endW s r) HKF.out HYS.out (Gm.Mvg.of_below HB.out) ⟨rfl, HN3.out.below hb5, HM.out.trans (Gm.Mvg.of_below hb5), rfl, Vm.LOk.nil _ _ _⟩ (.int .u8 4) (.string ⟨#[]⟩) (.int .i64 0) (.slice none 0 0) (.int .i64 0) (.int .i64 (Vm.endW s r).2.came.val) (.int .i64 (Vm.endW s r).2.came.err))
  obtain ⟨⟨y0, y1, y2, y3, y4, y5, y6⟩, yf0, yf1, yf2, yf3, yf4, yf5, yf6⟩ := hZ4.all
  clear hb4 hb5 hZ4 HDN HN3 HM HZU
  generalize (Vm.endW s r).2.came.val = va at HRW HFIN ⊢
  generalize (Vm.endW s r).2.came.err = er at HRW HFIN ⊢
  go_wp2_with fail
  refine bodyPost_ret (v := .agg #[.int .u8 4, .string ⟨#[]⟩, .int .i64 0, .slice none 0 0, .int .i64 0, .int .i64 va, .int .i64 er]) (results_cell_row Tryz.results98 _ _ Y 59 #[.int .u8 4, .string ⟨#[]⟩, .int .i64 0, .slice none 0 0, .int .i64 0, .int .i64 va, .int .i64 er] (0, 0) _ rfl HRW.out Tryz.underlying59 rfl HI.out) rfl ?_
  exact HFIN.out

set_option maxHeartbeats 2000000 in
set_option maxRecDepth 20000 in
theorem vfail {K : Nat → Prop} {b : Vm.Bk} {p : List Cd.FnV} {t : Ev.Tsk} {s : Vm.Fs} {w : World} (h : Vm.Hf K b p t s w) (er0 : Int) :
    Calls Tryz.prog 97 #[.pointer (some ⟨b.F, 0, none⟩), .int .i64 er0] w (Vm.OutP K b p t (Vm.endW s ⟨0, er0⟩) w) := by
  obtain ⟨W, hW⟩ : ∃ W, W = w.alloc (.cells #[.int .u8 0, .string ⟨#[]⟩, .int .i64 0, .slice none 0 0, .int .i64 0, .int .i64 0, .int .i64 0] 59) := ⟨_, rfl⟩
  have hb : Below w.heap.size w W := by rw [hW]; exact Cd.fn1 _ _ _
  have hZ : Vm.ZB w.heap.size W := ⟨by rw [hW]; exact heap_alloc_new w _⟩
  have hN : Vm.Hf (fun i => K i ∧ i ≠ w.heap.size) b p t s W := by rw [hW]; exact h.at_new _
  have HEN := Lib.hid (vend hN ⟨0, er0⟩)
  have HZ := Lib.hid hZ
  have HB := Lib.hid hb
  have HKF := Lib.hid h.fresh
  have HKO := Lib.hid (h.fr.lt w.heap.size (Nat.le_refl _))
  have HI : Hid ((Tryz.prog.info? 59).map (·.size) = some 7) := Vm.stp_size
  clear hb hZ hN h
  go_enter Tryz.func97, Tryz.ntmps97
  go_upto_region 1 with fail
  rw [← hW]
  clear hW
  obtain ⟨Y, hYe⟩ : ∃ Y, Y = w.heap.size := ⟨_, rfl⟩
  rw [← hYe] at HZ HKO HEN ⊢
  have HYS : Hid (w.heap.size ≤ Y) := by show _ ≤ _; omega
  clear hYe
  go_wp2_with fail
  refine HEN.out.mono ?_
  rintro e w4 ⟨b', k, pa, fn, A, n, c, fu, va, er, rfl, ho⟩
  have hZ4 := HZ.out.mv ho.out.2.2.1 HKO.out
  have HRW := Lib.hid (hZ4.ret (.int .u8 k) (.string pa) (.int .i64 fn) (.slice A n c) (.int .i64 fu) (.int .i64 va) (.int .i64 er))
  have HFIN := Lib.hid (Vm.OutP.ret (c := c) HKF.out HYS.out (Gm.Mvg.of_below HB.out) ho.out (.int .u8 k) (.string pa) (.int .i64 fn) (.slice A n c) (.int .i64 fu) (.int .i64 va) (.int .i64 er))
  obtain ⟨⟨y0, y1, y2, y3, y4, y5, y6⟩, yf0, yf1, yf2, yf3, yf4, yf5, yf6⟩ := hZ4.all
  clear hZ4 HEN HZ
  go_wp2_with fail
  refine bodyPost_ret (v := .agg #[.int .u8 k, .string pa, .int .i64 fn, .slice A n c, .int .i64 fu, .int .i64 va, .int .i64 er]) (results_cell_row Tryz.results97 _ _ Y 59 #[.int .u8 k, .string pa, .int .i64 fn, .slice A n c, .int .i64 fu, .int .i64 va, .int .i64 er] (0, 0) _ rfl HRW.out Tryz.underlying59 rfl HI.out) rfl ?_
  exact HFIN.out

namespace Vm
open Cd Ev
/-- A child's cells, as a walk asks for them. -/
theorem kid_at {w : World} {B : Nat} {A : Option Addr} {l : List Kd} (h : Lies w B A (kcells l)) {j : Nat} (hj : j < l.length) :
    ∃ ad : Addr, A = some ad ∧ ad.block < B ∧ w.cell? (ad.add (j * 4)) = some (.int .i64 l[j].r.val) ∧ w.cell? ⟨(ad.add (j * 4)).block, (ad.add (j * 4)).off + 1, none⟩ = some (.int .i64 l[j].r.err) ∧ w.cell? ⟨(ad.add (j * 4)).block, (ad.add (j * 4)).off + 2, none⟩ = some (.int .i64 l[j].reg) ∧
      w.cell? ⟨(ad.add (j * 4)).block, (ad.add (j * 4)).off + 3, none⟩ = some (.bool l[j].given) := by
  obtain ⟨ad, e, hb, hc⟩ := h (by rw [kcells_len]; omega)
  have hx : ∀ i u, (kc1 l[j])[i]? = some u → w.cell? ((ad.add (j * 4)).add i) = some u := fun i u hu => by
    have := hc (j * 4 + i) u (kcells_at hj hu)
    have e2 : (ad.add (j * 4)).add i = ad.add (j * 4 + i) := by
      unfold Addr.add
      repeat' split
      all_goals first | rfl | omega | (simp_all; done) | (simp_all; omega)
    rw [e2]; exact this
  refine ⟨ad, e, hb, hx 0 _ rfl, ?_, ?_, ?_⟩
  · rw [← Cd.off _ 1 (by omega)]; exact hx 1 _ rfl
  · rw [← Cd.off _ 2 (by omega)]; exact hx 2 _ rfl
  · rw [← Cd.off _ 3 (by omega)]; exact hx 3 _ rfl
theorem lacks_step {l : List Kd} {k : Nat} (hk : k < l.length) (h : l[k].given = true) : lacks (l.drop k) = lacks (l.drop (k + 1)) := by
  unfold lacks
  rw [List.drop_eq_getElem_cons hk, List.any_cons, h]
  rfl
theorem lacks_hit {l : List Kd} {k : Nat} (hk : k < l.length) (h : l[k].given = false) : lacks (l.drop k) = true := by
  unfold lacks
  rw [List.drop_eq_getElem_cons hk, List.any_cons, h]
  rfl
end Vm

set_option maxHeartbeats 2000000 in
set_option maxRecDepth 20000 in
theorem vlacks (l : List Vm.Kd) (A : Option Addr) (c : Nat) (w : World) (hl : Lies w w.heap.size A (Vm.kcells l)) (hn : l.length ≤ 100000) :
    Calls Tryz.prog 96 #[.slice A l.length c] w fun e w' => e = .returned (.bool (Vm.lacks l)) ∧ Below w.heap.size w w' := by
  have HL := Lib.hid hl
  have HN := Lib.hid hn
  clear hl hn
  go_enter Tryz.func96, Tryz.ntmps96
  go_wp2_with fail
  go_loopw [7] (fun s7 wr => ∃ k : Nat, k ≤ l.length ∧ s7 = .int .i64 k ∧ Hid (Vm.lacks l = Vm.lacks (l.drop k) ∧ Below w.heap.size w wr)) (fun s7 _ => l.length - (intOf s7).toNat)
  case atStart => exact ⟨0, Nat.zero_le _, rfl, rfl, Below.refl _ _⟩
  case round =>
    obtain ⟨k, hk, rfl, HK⟩ := hrel
    by_cases hlt : k < l.length
    · have k0 : (0 : Int) ≤ (k : Int) := by omega
      have k1 : (k : Int) < (l.length : Int) := by omega
      have hk100 : k ≤ 100000 := by have := HN.out; omega
      obtain ⟨ad, rfl, -, c0, c1, c2, c3⟩ := Vm.kid_at ((HL.out.below HK.out.2).mono HK.out.2.size) hlt
      have HS := Lib.hid (fun h => Vm.lacks_step (l := l) hlt h)
      have HH := Lib.hid (fun h => Vm.lacks_hit (l := l) hlt h)
      obtain ⟨x, hx⟩ : ∃ x, x = l[k] := ⟨_, rfl⟩
      rw [← hx] at c0 c1 c2 c3 HS HH
      clear hx
      obtain ⟨U, hU⟩ : ∃ U, U = wr.alloc (.cells #[.int .i64 x.r.val, .int .i64 x.r.err, .int .i64 x.reg, .bool x.given] 124) := ⟨_, rfl⟩
      have hbU : Below wr.heap.size wr U := by rw [hU]; exact Cd.fn1 _ _ _
      have hu3 : U.heap[wr.heap.size]? = some (.cells #[.int .i64 x.r.val, .int .i64 x.r.err, .int .i64 x.reg, .bool x.given] 124 (0, 0)) := by rw [hU]; exact heap_alloc_new wr _
      have u3 : U.cell? ⟨wr.heap.size, 3, none⟩ = some (.bool x.given) := cell_of_row _ _ 3 _ _ _ hu3
      have HBU : Hid (Below w.heap.size w U) := HK.out.2.trans (hbU.mono HK.out.2.size)
      have HLT := Lib.hid hlt
      clear hbU hu3 hlt
      go_upto_region 4 with fail
      rw [← hU]
      clear hU c0 c1 c2 c3
      generalize wr.heap.size = Y at u3 ⊢
      cases hg : x.given with
      | true =>
        rw [hg] at u3
        have HNEW : Hid (Vm.lacks l = Vm.lacks (l.drop (k + 1)) ∧ Below w.heap.size w U) := ⟨HK.out.1.trans (HS.out hg), HBU.out⟩
        clear hg
        go_wp2_with fail
        have hl1 : k < l.length := HLT.out
        go_roundw
        case rel => exact ⟨k + 1, by omega, by go_num, HNEW.out⟩
        case measure => simp [intOf]; omega
      | false =>
        rw [hg] at u3
        have HNEW : Hid (Vm.lacks l = true) := HK.out.1.trans (HH.out hg)
        clear hg
        go_wp2_with fail
        go_ret
        exact ⟨by rw [HNEW.out]; rfl, HBU.out⟩
    · have k1 : ¬ (k : Int) < (l.length : Int) := by omega
      obtain rfl : k = l.length := by omega
      clear hlt
      have HE : Hid (Vm.lacks l = false) := by
        have := HK.out.1
        rw [List.drop_length] at this
        exact this
      go_wp2_with fail
      go_ret
      exact ⟨by rw [HE.out]; rfl, HK.out.2⟩
end Go.Proofs.YtnlhacgihmelhaaGreatDoor
end

section
namespace Go.Proofs.YtnlhacgihmelhaaGreatDoor
open Go.RowKit

namespace Vm
open Cd Ev
/-- The rest of a slice of children. -/
def krest (A : Option Addr) (c k : Nat) : Option Addr := if c = k then A else A.map fun x : Addr => x.add (k * 4)
theorem kslice (A : Option Addr) (n c k : Nat) (hk : k ≤ n) (w : World) : (Instr.slice 120 (.slice A n c) (some (.int .i64 (k : Int))) none none).run Tryz.prog w = .ok (.slice (krest A c k) (n - k) (c - k)) w := by
  unfold Instr.slice Instr.sliceBounds Instr.sliceBound krest
  have h1 : (0 : Int) ≤ (k : Int) ∧ (k : Int) ≤ (n : Int) := by omega
  simp [go_sem, h1]
  intro h
  omega
theorem kcells_drop (l : List Kd) (k : Nat) : kcells (l.drop k) = (kcells l).drop (k * 4) := by
  induction l generalizing k with
  | nil => simp [kcells]
  | cons x l ih =>
    cases k with
    | zero => simp
    | succ k =>
      have e : kcells (x :: l) = kc1 x ++ kcells l := rfl
      have e4 : (kc1 x).length = 4 := rfl
      rw [List.drop_succ_cons, ih, e, List.drop_append, List.drop_eq_nil_of_le («as» := kc1 x) (by rw [e4]; omega), List.nil_append, e4]
      congr 1
      omega
theorem add_add (ad : Addr) (i j : Nat) : (ad.add i).add j = ad.add (i + j) := by
  unfold Addr.add
  repeat' split
  all_goals first | rfl | omega | (simp_all; done) | (simp_all; omega)
theorem rest_lies {w : World} {A : Option Addr} {c k : Nat} {l : List Kd} (h : w.ownsRow 0 124 4 (.slice A l.length c) l.length (kcells l)) (hk : k ≤ l.length) : Lies w w.heap.size (krest A c k) (kcells (l.drop k)) := by
  intro hp
  rw [kcells_len, List.length_drop] at hp
  have hl : k < l.length := by omega
  obtain ⟨ad, e, hb, hc⟩ := (Cd.rowLies h) (by rw [kcells_len]; omega)
  have hne : c ≠ k := by
    rcases h.2 with ⟨e1, e2⟩ | ⟨g, cap, cur, e1, hg, hh, hn, hcap, hsz, ht⟩
    · omega
    · injection e1 with _ _ e3
      omega
  subst e
  refine ⟨ad.add (k * 4), by unfold krest; rw [if_neg hne]; rfl, by rw [Lies.add_block]; exact hb, fun j u hu => ?_⟩
  rw [kcells_drop, List.getElem?_drop] at hu
  rw [add_add]
  exact hc _ u hu
theorem pairs_take (l : List Kd) (k : Nat) : pairs (l.take k) = (pairs l).take k := by unfold pairs; rw [List.map_take]
theorem pairs_len (l : List Kd) : (pairs l).length = l.length := by unfold pairs; simp
theorem pairs_at {l : List Kd} {k : Nat} (h : k < l.length) : (pairs l)[k]'(by rw [pairs_len]; exact h) = (l[k].reg, l[k].r) := by unfold pairs; simp
theorem tw_hit {l : List (Int × Res)} {k : Nat} (hk : k < l.length) (h : ∀ x ∈ l.take k, x.2.err = 0) (he : l[k].2.err ≠ 0) : l.takeWhile okK = l.take k := by
  have e : l = l.take k ++ l[k] :: l.drop (k + 1) := by rw [← List.drop_eq_getElem_cons hk, List.take_append_drop]
  have h2 : (l.take k ++ l[k] :: l.drop (k + 1)).takeWhile okK = l.take k := by
    rw [List.takeWhile_append_of_pos (p := okK) (fun x hx => decide_eq_true (h x hx)), List.takeWhile_cons_of_neg (by unfold okK; simpa using he), List.append_nil]
  rwa [← e] at h2
theorem tw_all {l : List (Int × Res)} (h : ∀ x ∈ l, x.2.err = 0) : l.takeWhile okK = l := by
  induction l with
  | nil => rfl
  | cons x l ih =>
    rw [List.takeWhile_cons_of_pos (p := okK) (decide_eq_true (h x (by simp))), ih fun y hy => h y (by simp [hy])]
/-- What a join comes to, by what its loop knows. -/
theorem join_hit {o : OpV} {s : Fs} {k : Nat} (hl : lacks (s.kids.drop s.joined) = false) (hk : k < (s.kids.drop s.joined).length) (h : ∀ x ∈ pairs ((s.kids.drop s.joined).take k), x.2.err = 0) (he : (s.kids.drop s.joined)[k].r.err ≠ 0) :
    join o s = endW { s with waits := false, regs := joined (pairs ((s.kids.drop s.joined).take k)) s.regs } ⟨0, (s.kids.drop s.joined)[k].r.err⟩ := by
  have hk2 : k < (pairs (s.kids.drop s.joined)).length := by rw [pairs_len]; exact hk
  rw [pairs_take] at h ⊢
  have e1 := kidsE_first hk2 h (by rw [pairs_at hk]; exact he)
  have e2 := tw_hit hk2 h (by rw [pairs_at hk]; exact he)
  rw [pairs_at hk] at e1
  unfold join joinR
  rw [if_neg (by rw [hl]; decide), e1, if_pos he, e2]
theorem join_end {o : OpV} {s : Fs} (hl : lacks (s.kids.drop s.joined) = false) (h : ∀ x ∈ pairs (s.kids.drop s.joined), x.2.err = 0) :
    join o s = if o.k = 14 then endW { s with waits := false, regs := joined (pairs (s.kids.drop s.joined)) s.regs, joined := s.kids.length } ⟨rgAt (joined (pairs (s.kids.drop s.joined)) s.regs) o.a, 0⟩
      else (.more, { s with waits := false, regs := joined (pairs (s.kids.drop s.joined)) s.regs, joined := s.kids.length }) := by
  unfold join joinR
  rw [if_neg (by rw [hl]; decide), kidsE_zero h, if_neg (by simp), tw_all h]
theorem join_wait {o : OpV} {s : Fs} (hl : lacks (s.kids.drop s.joined) = true) : join o s = (.join, { s with waits := true }) := by
  unfold join
  rw [if_pos hl]
theorem pairs_succ {l : List Kd} {r : List Int} {k : Nat} (h : k < l.length) : joined (pairs (l.take (k + 1))) r = (joined (pairs (l.take k)) r).set l[k].reg.toNat l[k].r.val := by
  have h2 : k < (pairs l).length := by rw [pairs_len]; exact h
  rw [pairs_take, pairs_take, joined_succ h2, pairs_at h]
theorem pairs_tsucc {l : List Kd} {k : Nat} (h : k < l.length) : pairs (l.take (k + 1)) = pairs (l.take k) ++ [(l[k].reg, l[k].r)] := by
  rw [List.take_succ_eq_append_getElem h]
  unfold pairs
  rw [List.map_append]
  rfl
end Vm

set_option maxHeartbeats 4000000 in
set_option maxRecDepth 20000 in
theorem vjoin {K : Nat → Prop} {b : Vm.Bk} {p : List Cd.FnV} {t : Ev.Tsk} {o : Cd.OpV} {s : Vm.Fs} {w : World} (h : Vm.Hf K b p t s w) (hp : Vm.POk p t o s) (ho : o.k = 13 ∨ o.k = 14) (hg : Ev.GoodO p (Ev.fnOf p t) o) (hr : s.regs.length ≤ 16) (h64 : (Ev.fnOf p t).ops.length ≤ 64) :
    Calls Tryz.prog 66 #[.pointer (some ⟨b.F, 0, none⟩)] w (Vm.OutP K b p t (Vm.join o s) w) := by
  obtain ⟨W, hW⟩ : ∃ W, W = w.alloc (.cells #[.int .u8 0, .string ⟨#[]⟩, .int .i64 0, .slice none 0 0, .int .i64 0, .int .i64 0, .int .i64 0] 59) := ⟨_, rfl⟩
  have hb : Below w.heap.size w W := by rw [hW]; exact Cd.fn1 _ _ _
  have hZ : Vm.ZB w.heap.size W := ⟨by rw [hW]; exact heap_alloc_new w _⟩
  have hN : Vm.Hf (fun i => K i ∧ i ≠ w.heap.size) b p t s W := by rw [hW]; exact h.at_new _
  have HZ := Lib.hid hZ
  have HB := Lib.hid hb
  have HN := Lib.hid hN
  have HKF := Lib.hid h.fresh
  have HKO := Lib.hid (h.fr.lt w.heap.size (Nat.le_refl _))
  have HI : Hid ((Tryz.prog.info? 59).map (·.size) = some 7) := Vm.stp_size
  have HP := Lib.hid hp
  have HO := Lib.hid ho
  have HG := Lib.hid hg
  have HR := Lib.hid hr
  have H64 := Lib.hid h64
  obtain ⟨U, cu, hu⟩ := Ev.own_slice h.fr.row
  have HU := Lib.hid hu
  have c9 : W.cell? ⟨b.F, 9, none⟩ = some (.slice U s.kids.length cu) := by rw [← hu]; exact hN.fr.cell 9
  have c10 : W.cell? ⟨b.F, 10, none⟩ = some (.int .i64 (s.joined : Int)) := hN.fr.cell 10
  have hsl : ∀ w : World, (Instr.slice 120 (.slice U s.kids.length cu) (some (.int .i64 (s.joined : Int))) none none).run Tryz.prog w = .ok (.slice (Vm.krest U cu s.joined) (s.kids.length - s.joined) (cu - s.joined)) w := fun w => Vm.kslice U _ cu _ hp.joined w
  obtain ⟨m, hm⟩ : ∃ m, m = s.kids.drop s.joined := ⟨_, rfl⟩
  have hml : s.kids.length - s.joined = m.length := by rw [hm, List.length_drop]
  rw [hml] at hsl
  have HMM := Lib.hid hm
  have hm16 : m.length ≤ 16 := by have := hp.kids; omega
  have HM16 := Lib.hid hm16
  have hrow := h.fr.row
  rw [hu] at hrow
  have HLI : Hid (∀ (X : World) (s' : Vm.Fs), Vm.Hf (fun i => K i ∧ i ≠ w.heap.size) b p t s' X → s'.kids = s.kids → Lies X X.heap.size (Vm.krest U cu s.joined) (Vm.kcells m)) := fun X s' hx hk => by
    have h1 := hx.fr.row
    rw [hu, hk] at h1
    rw [hm]
    exact Vm.rest_lies h1 hp.joined
  clear hb hZ hN h hp ho hg hr h64 hm hml hu hrow
  go_enter Tryz.func66, Tryz.ntmps66
  go_upto_region 1 with fail
  rw [← hW]
  clear hW
  obtain ⟨Y, hYe⟩ : ∃ Y, Y = w.heap.size := ⟨_, rfl⟩
  rw [← hYe] at HZ HKO HN HLI ⊢
  have HYS : Hid (w.heap.size ≤ Y) := by show _ ≤ _; omega
  clear hYe
  go_region
  clear c9 c10 hsl
  have HLK := Lib.hid (vlacks m (Vm.krest U cu s.joined) (cu - s.joined) W.drew (HLI.out _ s HN.out.drew rfl) (by omega))
  go_wp2_with fail
  refine HLK.out.mono ?_
  rintro e w2 ⟨rfl, hb2⟩
  have hb2' : Below W.heap.size W w2 := (Below.refl _ _).drew.trans hb2
  have n2 := HN.out.below hb2'
  have hM2 : Gm.Mvg (Vm.KOff b) (Vm.KOff b) W w2 := Gm.Mvg.of_below hb2'
  have c11 : w2.cell? ⟨b.F, 11, none⟩ = some (.bool s.waits) := n2.fr.cell 11
  have f11 := n2.fr.fro 11
  obtain ⟨n3, m3⟩ := n2.setF { s with waits := Vm.lacks m } 11 (.bool (Vm.lacks m)) rfl rfl rfl
  have HM3 := Lib.hid (hM2.trans m3)
  obtain ⟨W3, hW3⟩ : ∃ X, X = w2.setCell ⟨b.F, 11, none⟩ (.bool (Vm.lacks m)) := ⟨_, rfl⟩
  rw [← hW3] at n3 HM3
  have HN3 := Lib.hid n3
  clear hb2 hb2' n2 hM2 m3 HLK HN
  go_upto_region 3 with fail
  rw [← hW3]
  clear hW3 c11 f11
  have c11 : W3.cell? ⟨b.F, 11, none⟩ = some (.bool (Vm.lacks m)) := n3.fr.cell 11
  have hZ3 := HZ.out.mv HM3.out HKO.out
  have HZ3 := Lib.hid hZ3
  cases hlk : Vm.lacks m with
  | true =>
    rw [hlk] at c11
    have HJ : Hid (Vm.join o s = (.join, { s with waits := true })) := Vm.join_wait (by rw [← HMM.out]; exact hlk)
    have HRW := Lib.hid (hZ3.ret (.int .u8 3) (.string ⟨#[]⟩) (.int .i64 0) (.slice none 0 0) (.int .i64 0) (.int .i64 0) (.int .i64 0))
    have HFIN : Hid (Vm.OutP K b p t (Vm.join o s) w (.returned (.agg #[.int .u8 3, .string ⟨#[]⟩, .int .i64 0, .slice none 0 0, .int .i64 0, .int .i64 0, .int .i64 0])) (Vm.set7 W3 Y (.int .u8 3) (.string ⟨#[]⟩) (.int .i64 0) (.slice none 0 0) (.int .i64 0) (.int .i64 0) (.int .i64 0))) := by
      show Vm.OutP _ _ _ _ _ _ _ _
      rw [HJ.out]
      have hn := HN3.out
      rw [hlk] at hn
      exact Vm.OutP.ret (x := (.join, { s with waits := true })) HKF.out HYS.out (Gm.Mvg.of_below HB.out) ⟨rfl, hn, HM3.out, rfl, Vm.LOk.nil _ _ _⟩ _ _ _ _ _ _ _
    obtain ⟨⟨y0, y1, y2, y3, y4, y5, y6⟩, yf0, yf1, yf2, yf3, yf4, yf5, yf6⟩ := hZ3.all
    clear n3 hZ3 hlk
    go_wp2_with fail
    refine bodyPost_ret (v := .agg #[.int .u8 3, .string ⟨#[]⟩, .int .i64 0, .slice none 0 0, .int .i64 0, .int .i64 0, .int .i64 0]) (results_cell_row Tryz.results66 _ _ Y 59 #[.int .u8 3, .string ⟨#[]⟩, .int .i64 0, .slice none 0 0, .int .i64 0, .int .i64 0, .int .i64 0] (0, 0) _ rfl HRW.out Tryz.underlying59 rfl HI.out) rfl ?_
    exact HFIN.out
  | false =>
    rw [hlk] at c11 HN3
    have HLF : Hid (Vm.lacks (s.kids.drop s.joined) = false) := by show _ = _; rw [← HMM.out]; exact hlk
    clear n3 hZ3 hlk
    go_wp2_with fail
    clear c11
    go_loopw [28] (fun s28 wr => ∃ k : Nat, k ≤ m.length ∧ s28 = .int .i64 k ∧ Hid ((∀ x ∈ Vm.pairs (m.take k), x.2.err = 0) ∧ Vm.Hf (fun i => K i ∧ i ≠ Y) b p t { s with waits := false, regs := Ev.joined (Vm.pairs (m.take k)) s.regs } wr ∧ Gm.Mvg (Vm.KOff b) (Vm.KOff b) W wr)) (fun s28 _ => m.length - (intOf s28).toNat)
    case atStart => exact ⟨0, Nat.zero_le _, rfl, fun x hx => by simp [Vm.pairs] at hx, HN3.out, HM3.out⟩
    case round =>
      obtain ⟨k, hk, rfl, HK⟩ := hrel
      by_cases hlt : k < m.length
      · have k0 : (0 : Int) ≤ (k : Int) := by omega
        have k1 : (k : Int) < (m.length : Int) := by omega
        obtain ⟨ad, hE, -, c0, c1, c2, c3⟩ := Vm.kid_at (HLI.out _ _ HK.out.2.1 rfl) hlt
        rw [hE]
        have HHIT : Hid (∀ x, x = m[k] → (∀ y ∈ Vm.pairs (m.take k), y.2.err = 0) → x.r.err ≠ 0 → Vm.join o s = Vm.endW { s with waits := false, regs := Ev.joined (Vm.pairs (m.take k)) s.regs } ⟨0, x.r.err⟩) := fun x hx hh he => by
          subst hx
          have e := HMM.out
          subst e
          exact Vm.join_hit HLF.out hlt hh he
        have HJ := Lib.hid (Vm.pairs_succ (r := s.regs) hlt)
        have HTS := Lib.hid (Vm.pairs_tsucc hlt)
        have hmem : m[k] ∈ s.kids := List.mem_of_mem_drop (i := s.joined) (HMM.out ▸ List.getElem_mem hlt)
        have hreg := HP.out.kreg m[k] hmem
        obtain ⟨x, hx⟩ : ∃ x, x = m[k] := ⟨_, rfl⟩
        rw [← hx] at c0 c1 c2 c3 HJ HTS hreg
        have HHX := Lib.hid (HHIT.out x hx HK.out.1)
        clear hx HHIT hmem
        obtain ⟨dr, ⟨val, err⟩, gv⟩ := x
        simp only [] at c0 c1 c2 c3 hreg
        obtain ⟨dn, rfl⟩ := Int.eq_ofNat_of_zero_le hreg.1
        obtain ⟨V, hV⟩ : ∃ V, V = wr.alloc (.cells #[.int .i64 val, .int .i64 err, .int .i64 (dn : Int), .bool gv] 124) := ⟨_, rfl⟩
        have hbV : Below wr.heap.size wr V := by rw [hV]; exact Cd.fn1 _ _ _
        have hZc : V.heap[wr.heap.size]? = some (.cells #[.int .i64 val, .int .i64 err, .int .i64 (dn : Int), .bool gv] 124 (0, 0)) := by rw [hV]; exact heap_alloc_new wr _
        have HKV := Lib.hid (HK.out.2.1.below hbV)
        have HMV := Lib.hid (HK.out.2.2.trans (Gm.Mvg.of_below hbV))
        have HE0 := Lib.hid HK.out.1
        have HFR : Hid (wr.heap.size ≠ b.F ∧ wr.heap.size ≠ b.R ∧ wr.heap.size < V.heap.size) := ⟨fun e => by have := HK.out.2.1.fr.ltF; omega, fun e => by have := HK.out.2.1.fr.ltR; omega, Cd.ltH hZc⟩
        have hk100 : k ≤ 100000 := by have := HM16.out; omega
        have HLT := Lib.hid hlt
        clear hlt HK hbV
        go_upto_region 8 with fail
        rw [← hV]
        clear hV c0 c1 c2 c3
        generalize wr.heap.size = C at hZc HFR ⊢
        have z0 : V.cell? ⟨C, 0, none⟩ = some (.int .i64 val) := cell_of_row _ _ 0 _ _ _ hZc
        have z1 : V.cell? ⟨C, 1, none⟩ = some (.int .i64 err) := cell_of_row _ _ 1 _ _ _ hZc
        have z2 : V.cell? ⟨C, 2, none⟩ = some (.int .i64 (dn : Int)) := cell_of_row _ _ 2 _ _ _ hZc
        by_cases he : err = 0
        · subst he
          have hl : (Ev.joined (Vm.pairs (m.take k)) s.regs).length = s.regs.length := Ev.joined_len _ _
          have hdn : dn < (Ev.joined (Vm.pairs (m.take k)) s.regs).length := by rw [hl]; omega
          have t6 : V.cell? ⟨b.F, 6, none⟩ = some (.slice (some ⟨b.R, 0, none⟩) s.regs.length s.regs.length) := by
            have := HKV.out.fr.cell 6
            rw [this]
            unfold Vm.fcs
            simp only [hl]
            rfl
          have r0 := HKV.out.fr.reg hdn
          have rf := HKV.out.fr.rfro dn
          have d0 : (0 : Int) ≤ (dn : Int) := by omega
          have d1 : (dn : Int) < (s.regs.length : Int) := by omega
          obtain ⟨hn2, hm2⟩ := HKV.out.setR dn val
          have HNEW : Hid ((∀ y ∈ Vm.pairs (m.take (k + 1)), y.2.err = 0) ∧ Vm.Hf (fun i => K i ∧ i ≠ Y) b p t { s with waits := false, regs := Ev.joined (Vm.pairs (m.take (k + 1))) s.regs } (V.setCell ⟨b.R, dn, none⟩ (.int .i64 val)) ∧ Gm.Mvg (Vm.KOff b) (Vm.KOff b) W (V.setCell ⟨b.R, dn, none⟩ (.int .i64 val))) := by
            refine ⟨fun y hy => ?_, ?_, HMV.out.trans hm2⟩
            · rw [HTS.out] at hy
              rcases List.mem_append.1 hy with hy | hy
              · exact HE0.out y hy
              · rw [List.mem_singleton.1 hy]
            · rw [HJ.out]
              simpa using hn2
          generalize (Ev.joined (Vm.pairs (m.take k)) s.regs)[dn] = old at r0
          clear hl hdn hn2 hm2 HJ HTS HHX HKV HMV HE0 hZc hreg
          go_wp2_with fail
          go_region
          go_wp2_with fail
          have hl1 : k < m.length := HLT.out
          go_roundw
          case rel => exact ⟨k + 1, by omega, by go_num, HNEW.out.1, HNEW.out.2.1.drew, Ev.mvg_drew HNEW.out.2.2⟩
          case measure => simp [intOf]; omega
        · have e1 : (err != 0) = true := by simpa using he
          have HJ2 := Lib.hid (HHX.out he)
          have HFL := Lib.hid (vfail HKV.out err)
          clear he
          go_wp2_with fail
          refine HFL.out.mono ?_
          rintro e w4 ⟨b', kk, pa, fn, A, n, c, fu, va, er, rfl, hoo⟩
          have hZ4 := HZ.out.mv (HMV.out.trans hoo.out.2.2.1) HKO.out
          have HRW := Lib.hid (hZ4.ret (.int .u8 kk) (.string pa) (.int .i64 fn) (.slice A n c) (.int .i64 fu) (.int .i64 va) (.int .i64 er))
          have HFIN : Hid (Vm.OutP K b p t (Vm.join o s) w (.returned (.agg #[.int .u8 kk, .string pa, .int .i64 fn, .slice A n c, .int .i64 fu, .int .i64 va, .int .i64 er])) (Vm.set7 w4 Y (.int .u8 kk) (.string pa) (.int .i64 fn) (.slice A n c) (.int .i64 fu) (.int .i64 va) (.int .i64 er))) := by
            show Vm.OutP _ _ _ _ _ _ _ _
            rw [HJ2.out]
            exact Vm.OutP.ret HKF.out HYS.out ((Gm.Mvg.of_below HB.out).trans HMV.out) hoo.out _ _ _ _ _ _ _
          obtain ⟨⟨y0, y1, y2, y3, y4, y5, y6⟩, yf0, yf1, yf2, yf3, yf4, yf5, yf6⟩ := hZ4.all
          clear hZ4 HFL z0 z1 z2 hZc
          go_wp2_with fail
          refine bodyPost_ret (v := .agg #[.int .u8 kk, .string pa, .int .i64 fn, .slice A n c, .int .i64 fu, .int .i64 va, .int .i64 er]) (results_cell_row Tryz.results66 _ _ Y 59 #[.int .u8 kk, .string pa, .int .i64 fn, .slice A n c, .int .i64 fu, .int .i64 va, .int .i64 er] (0, 0) _ rfl HRW.out Tryz.underlying59 rfl HI.out) rfl ?_
          exact HFIN.out
      · have k1 : ¬ (k : Int) < (m.length : Int) := by omega
        obtain rfl : k = m.length := by omega
        clear hlt
        rw [List.take_length] at HK
        have HEQ : Hid (Vm.join o s = if o.k = 14 then Vm.endW { s with waits := false, regs := Ev.joined (Vm.pairs m) s.regs, joined := s.kids.length } ⟨Ev.rgAt (Ev.joined (Vm.pairs m) s.regs) o.a, 0⟩ else (.more, { s with waits := false, regs := Ev.joined (Vm.pairs m) s.regs, joined := s.kids.length })) := by
          show _ = _
          have := Vm.join_end (o := o) HLF.out (by rw [← HMM.out]; exact HK.out.1)
          rw [this, ← HMM.out]
        have hjl : (Ev.joined (Vm.pairs m) s.regs).length = s.regs.length := Ev.joined_len _ _
        have HJL := Lib.hid hjl
        obtain ⟨rg, hrg⟩ : ∃ r, r = Ev.joined (Vm.pairs m) s.regs := ⟨_, rfl⟩
        rw [← hrg] at HK HEQ HJL
        clear hrg hjl
        have n4 := HK.out.2.1
        have c9 : wr.cell? ⟨b.F, 9, none⟩ = some (.slice U s.kids.length cu) := by rw [← HU.out]; exact n4.fr.cell 9
        have c10 : wr.cell? ⟨b.F, 10, none⟩ = some (.int .i64 (s.joined : Int)) := n4.fr.cell 10
        have f10 := n4.fr.fro 10
        obtain ⟨n5, m5⟩ := n4.setF { s with waits := false, regs := rg, joined := s.kids.length } 10 (.int .i64 (s.kids.length : Int)) rfl rfl rfl
        obtain ⟨W5, hW5⟩ : ∃ X, X = wr.setCell ⟨b.F, 10, none⟩ (.int .i64 (s.kids.length : Int)) := ⟨_, rfl⟩
        rw [← hW5] at n5 m5
        have HM5 := Lib.hid (HK.out.2.2.trans m5)
        have HN5 := Lib.hid n5
        clear n4 m5
        go_upto_region 13 with fail
        rw [← hW5]
        clear hW5 c9 c10 f10
        have n5 := HN5.out
        obtain ⟨j, hj⟩ : ∃ j, j = s.at_ - 1 := ⟨_, rfl⟩
        have hjl : j < (Ev.fnOf p t).ops.length := by have h1 := HP.out.le; have h2 := HP.out.pos; omega
        have hjo : (Ev.fnOf p t).ops[j] = o := by
          have := HP.out.op
          unfold Vm.opF at this
          rw [← hj, List.getElem?_eq_getElem hjl] at this
          exact this
        obtain ⟨ad, hOA, -, g0, g1, g2, g3, g4⟩ := Cd.op_at n5.ops.li hjl
        rw [hjo] at g0 g1 g2 g3 g4
        have c4 : W5.cell? ⟨b.F, 4, none⟩ = some (.slice (some ad) (Ev.fnOf p t).ops.length b.oc) := by rw [← hOA]; exact n5.fr.cell 4
        have c7 : W5.cell? ⟨b.F, 7, none⟩ = some (.int .i64 (s.at_ : Int)) := n5.fr.cell 7
        have hjw : IntKind.i64.wrap ((s.at_ : Int) - 1) = (j : Int) := by rw [IntKind.wrap_i64]; have h1 := HP.out.pos; have h2 := HP.out.at64; omega
        have j0 : (0 : Int) ≤ (j : Int) := by omega
        have j1 : (j : Int) < ((Ev.fnOf p t).ops.length : Int) := by omega
        obtain ⟨L, hL⟩ : ∃ L, L = (Ev.fnOf p t).ops.length := ⟨_, rfl⟩
        rw [← hL] at c4 j1
        have g0a := Ev.cell_alloc (.cells #[.int .u8 0, .int .i64 0, .int .i64 0, .int .i64 0, .int .i64 0] 72) g0
        have g1a := Ev.cell_alloc (.cells #[.int .u8 0, .int .i64 0, .int .i64 0, .int .i64 0, .int .i64 0] 72) g1
        have g2a := Ev.cell_alloc (.cells #[.int .u8 0, .int .i64 0, .int .i64 0, .int .i64 0, .int .i64 0] 72) g2
        have g3a := Ev.cell_alloc (.cells #[.int .u8 0, .int .i64 0, .int .i64 0, .int .i64 0, .int .i64 0] 72) g3
        have g4a := Ev.cell_alloc (.cells #[.int .u8 0, .int .i64 0, .int .i64 0, .int .i64 0, .int .i64 0] 72) g4
        have c4a := Ev.cell_alloc (.cells #[.int .u8 0, .int .i64 0, .int .i64 0, .int .i64 0, .int .i64 0] 72) c4
        have c7a := Ev.cell_alloc (.cells #[.int .u8 0, .int .i64 0, .int .i64 0, .int .i64 0, .int .i64 0] 72) c7
        clear hj hjl hjo hOA n5 hL
        go_region
        obtain ⟨W6, hW6⟩ : ∃ X, X = (W5.alloc (.cells #[.int .u8 (o.k : Int), .int .i64 o.d, .int .i64 o.a, .int .i64 o.b, .int .i64 o.n] 72)).drew := ⟨_, rfl⟩
        have hb6 : Below W5.heap.size W5 W6 := by rw [hW6]; exact (Cd.fn1 _ _ _).drew
        have hO6 : W6.heap[W5.heap.size]? = some (.cells #[.int .u8 (o.k : Int), .int .i64 o.d, .int .i64 o.a, .int .i64 o.b, .int .i64 o.n] 72 (0, 0)) := by rw [hW6]; exact heap_alloc_new W5 _
        have HN6 := Lib.hid (HN5.out.below hb6)
        have HM6 := Lib.hid (HM5.out.trans (Gm.Mvg.of_below hb6))
        have hZ6 := HZ.out.mv HM6.out HKO.out
        clear hb6 g0 g1 g2 g3 g4 c4 c7 g0a g1a g2a g3a g4a c4a c7a hjw j0 j1
        go_upto_region 14 with fail
        rw [← hW6]
        clear hW6
        obtain ⟨O, hOe⟩ : ∃ O, O = W5.heap.size := ⟨_, rfl⟩
        rw [← hOe] at hO6 ⊢
        clear hOe
        have o0 : W6.cell? ⟨O, 0, none⟩ = some (.int .u8 (o.k : Int)) := cell_of_row _ _ 0 _ _ _ hO6
        have o2 : W6.cell? ⟨O, 2, none⟩ = some (.int .i64 o.a) := cell_of_row _ _ 2 _ _ _ hO6
        by_cases h14 : o.k = 14
        · have k14 : (o.k : Int) = 14 := by omega
          rw [k14] at o0
          obtain ⟨d', a, b', ea, eb, ec, -⟩ := HG.out.nat
          have ha1 := HG.out.a (by rw [h14]; rfl) (by omega)
          rw [eb] at o2
          have hal : a < rg.length := by
            have h1 := HJL.out
            have h2 := HP.out.regs
            omega
          have t6 : W6.cell? ⟨b.F, 6, none⟩ = some (.slice (some ⟨b.R, 0, none⟩) rg.length rg.length) := HN6.out.fr.cell 6
          have ra := HN6.out.fr.reg hal
          have a0 : (0 : Int) ≤ (a : Int) := by omega
          have a1 : (a : Int) < (rg.length : Int) := by omega
          have HRZ : Hid (Vm.join o s = Vm.endW { s with waits := false, regs := rg, joined := s.kids.length } ⟨rg[a], 0⟩) := by
            have := HEQ.out
            rw [if_pos h14, eb, Ev.rgAt_nat hal] at this
            exact this
          change W6.cell? ⟨b.R, a, none⟩ = some (.int .i64 rg[a]) at ra
          generalize rg[a] = x at ra HRZ
          have HEN := Lib.hid (vend HN6.out.drew ⟨x, 0⟩)
          clear ea ec ha1 hal h14 eb hO6
          go_wp2_with fail
          go_still_tail 10, (by kernel_rfl)
          go_wp2_with fail
          refine HEN.out.mono ?_
          rintro e w7 ⟨b', kk, pa, fn, A, n, c, fu, va, er, rfl, hoo⟩
          have hZ7 := (hZ6.below (Below.refl _ _).drew).mv hoo.out.2.2.1 HKO.out
          have HRW := Lib.hid (hZ7.ret (.int .u8 kk) (.string pa) (.int .i64 fn) (.slice A n c) (.int .i64 fu) (.int .i64 va) (.int .i64 er))
          have HFIN : Hid (Vm.OutP K b p t (Vm.join o s) w (.returned (.agg #[.int .u8 kk, .string pa, .int .i64 fn, .slice A n c, .int .i64 fu, .int .i64 va, .int .i64 er])) (Vm.set7 w7 Y (.int .u8 kk) (.string pa) (.int .i64 fn) (.slice A n c) (.int .i64 fu) (.int .i64 va) (.int .i64 er))) := by
            show Vm.OutP _ _ _ _ _ _ _ _
            rw [HRZ.out]
            exact Vm.OutP.ret HKF.out HYS.out ((Gm.Mvg.of_below HB.out).trans (Ev.mvg_drew HM6.out)) hoo.out _ _ _ _ _ _ _
          obtain ⟨⟨y0, y1, y2, y3, y4, y5, y6⟩, yf0, yf1, yf2, yf3, yf4, yf5, yf6⟩ := hZ7.all
          clear hZ7 hZ6 HEN o0 o2 t6 ra
          go_wp2_with fail
          refine bodyPost_ret (v := .agg #[.int .u8 kk, .string pa, .int .i64 fn, .slice A n c, .int .i64 fu, .int .i64 va, .int .i64 er]) (results_cell_row Tryz.results66 _ _ Y 59 #[.int .u8 kk, .string pa, .int .i64 fn, .slice A n c, .int .i64 fu, .int .i64 va, .int .i64 er] (0, 0) _ rfl HRW.out Tryz.underlying59 rfl HI.out) rfl ?_
          exact HFIN.out
        · have e14 : ((o.k : Int) == 14) = false := by rw [beq_eq_false_iff_ne]; omega
          have HRZ : Hid (Vm.join o s = (.more, { s with waits := false, regs := rg, joined := s.kids.length })) := by
            have := HEQ.out
            rw [if_neg h14] at this
            exact this
          clear h14 hO6
          go_wp2_with fail
          refine (vmore _).mono ?_
          rintro e w7 ⟨rfl, hb7⟩
          have hZ7 := hZ6.below hb7
          have HRW := Lib.hid (hZ7.ret (.int .u8 1) (.string ⟨#[]⟩) (.int .i64 0) (.slice none 0 0) (.int .i64 0) (.int .i64 0) (.int .i64 0))
          have HFIN : Hid (Vm.OutP K b p t (Vm.join o s) w (.returned (.agg #[.int .u8 1, .string ⟨#[]⟩, .int .i64 0, .slice none 0 0, .int .i64 0, .int .i64 0, .int .i64 0])) (Vm.set7 w7 Y (.int .u8 1) (.string ⟨#[]⟩) (.int .i64 0) (.slice none 0 0) (.int .i64 0) (.int .i64 0) (.int .i64 0))) := by
            show Vm.OutP _ _ _ _ _ _ _ _
            rw [HRZ.out]
            exact Vm.OutP.ret (x := (.more, { s with waits := false, regs := rg, joined := s.kids.length })) HKF.out HYS.out ((Gm.Mvg.of_below HB.out).trans HM6.out) ⟨rfl, HN6.out.below hb7, Gm.Mvg.of_below hb7, rfl, Vm.LOk.nil _ _ _⟩ _ _ _ _ _ _ _
          obtain ⟨⟨y0, y1, y2, y3, y4, y5, y6⟩, yf0, yf1, yf2, yf3, yf4, yf5, yf6⟩ := hZ7.all
          clear hZ7 hZ6 hb7 o0 o2
          go_wp2_with fail
          refine bodyPost_ret (v := .agg #[.int .u8 1, .string ⟨#[]⟩, .int .i64 0, .slice none 0 0, .int .i64 0, .int .i64 0, .int .i64 0]) (results_cell_row Tryz.results66 _ _ Y 59 #[.int .u8 1, .string ⟨#[]⟩, .int .i64 0, .slice none 0 0, .int .i64 0, .int .i64 0, .int .i64 0] (0, 0) _ rfl HRW.out Tryz.underlying59 rfl HI.out) rfl ?_
          exact HFIN.out
end Go.Proofs.YtnlhacgihmelhaaGreatDoor
end
