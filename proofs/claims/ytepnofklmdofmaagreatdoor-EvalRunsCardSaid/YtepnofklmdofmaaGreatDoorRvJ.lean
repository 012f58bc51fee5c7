/-
  Layer 13: the document's Step at a plain op.
-/
import Derived.Test.YtepnofklmdofmaaGreatDoorLowRvI
import Derived.Deep.RegionHeld3
namespace Go.Proofs.YtepnofklmdofmaaGreatDoor
open Go.RowKit

set_option maxHeartbeats 2000000 in
set_option maxRecDepth 20000 in
theorem rstep_plain {B R : Nat} {PA : Option Addr} {pc : Nat} {u v : Value} {t : Ev.Tsk} {A : Option Addr} {c : Nat} {js : List Int} {ds : List Ev.Dm} {s : Ev.St} {w : World} {l : List Cd.Fm} (h : Ev.Rn B R (.slice PA l.length pc) u v t A c js ds s w) (hP : Cd.Prog w w.heap.size PA l) (fi : Nat) (hfi : t.fn = (fi : Int)) (hfl : fi < l.length) (hat : s.at_ < l[fi].f.ops.length) (h0 : s.left ≠ 0) (hl16 : s.left ≤ 65536) (ha64 : s.at_ ≤ 64) (hk12 : l[fi].f.ops[s.at_].k ≤ 11) {p : List Cd.FnV} {f : Cd.FnV} (hg : Ev.GoodO p f l[fi].f.ops[s.at_]) (hr : (s.regs.length : Int) = f.regs) :
    Calls Tryz.prog 53 #[.pointer (some ⟨B, 0, none⟩)] w (Ev.RStepP B R (.slice PA l.length pc) u v t A c js ds (Ev.plS (Ev.paid s) l[fi].f.ops[s.at_]) l[fi].f.ops[s.at_] (Ev.plE (Ev.paid s) l[fi].f.ops[s.at_]) w) := by
  obtain ⟨V, hV⟩ : ∃ V, V = w.alloc (.cells #[.int .u8 0, .int .i64 0, .int .i64 0, .int .i64 0, .int .i64 0] 72) := ⟨_, rfl⟩
  have hbV : Below w.heap.size w V := by rw [hV]; exact Cd.fn1 _ _ _
  have hsV : V.heap.size = w.heap.size + 1 := by rw [hV]; simp
  have hO0 : V.heap[w.heap.size]? = some (.cells #[.int .u8 0, .int .i64 0, .int .i64 0, .int .i64 0, .int .i64 0] 72 (0, 0)) := by rw [hV]; exact heap_alloc_new w _
  have hN := h.below hbV
  have hP2 := (hP.below hbV).mono hbV.size
  obtain ⟨ad, rfl, hadl, c0, c1, c2⟩ := Cd.fn_at hP2.fs hfl
  obtain ⟨ao, ea, haol, o0, o1, o2, o3, o4⟩ := Cd.op_at (hP2.os _ (List.getElem_mem hfl)) hat
  have b0 : V.cell? ⟨B, 0, none⟩ = some (.slice (some ad) l.length pc) := hN.cell 0
  have b2 : V.cell? ⟨B, 2, none⟩ = some (.int .i64 (fi : Int)) := by rw [← hfi]; exact hN.cell 2
  have b6 : V.cell? ⟨B, 6, none⟩ = some (.int .i64 (s.at_ : Int)) := hN.cell 6
  have f0 : (0 : Int) ≤ (fi : Int) := by omega
  have fl : (fi : Int) < (l.length : Int) := by omega
  have g0 : (0 : Int) ≤ (s.at_ : Int) := by omega
  have g1 : (s.at_ : Int) < (l[fi].f.ops.length : Int) := by omega
  have HN := Lib.hid hN
  have HW0 := Lib.hid h
  have HM := Lib.hid (Gm.Mvg.of_below (off := Ev.ROff B R u v) hbV)
  have HB := Lib.hid hbV
  have H0 := Lib.hid h0
  rw [ea] at c2
  generalize l[fi].f.ops[s.at_] = o at o0 o1 o2 o3 o4 hk12 hg ⊢
  generalize l[fi].f.ops.length = nops at c2 g1
  generalize l[fi].c = oc at c2
  clear hN hbV h hP hP2 hat ea h0 c0 c1 haol hadl
  have g0a := fun x => Ev.cell_alloc x b0
  have g1a := fun x => Ev.cell_alloc x b2
  have g2a := fun x => Ev.cell_alloc x b6
  have g3a := fun x => Ev.cell_alloc x c2
  have h0a := fun x => Ev.cell_alloc x o0
  have h1a := fun x => Ev.cell_alloc x o1
  have h2a := fun x => Ev.cell_alloc x o2
  have h3a := fun x => Ev.cell_alloc x o3
  have h4a := fun x => Ev.cell_alloc x o4
  obtain ⟨V2, hV2⟩ : ∃ X, X = (V.alloc (.cells #[.int .u8 (o.k : Int), .int .i64 o.d, .int .i64 o.a, .int .i64 o.b, .int .i64 o.n] 72)).drew := ⟨_, rfl⟩
  have hb2 : Below V.heap.size V V2 := by rw [hV2]; exact (Cd.fn1 _ _ _).drew
  have hO2 : V2.heap[V.heap.size]? = some (.cells #[.int .u8 (o.k : Int), .int .i64 o.d, .int .i64 o.a, .int .i64 o.b, .int .i64 o.n] 72 (0, 0)) := by rw [hV2]; exact heap_alloc_new V _
  have hY2 := (hb2.block w.heap.size (by omega)).trans hO0
  have HI : Hid ((Tryz.prog.info? 72).map (·.size) = some 5) := Cd.opSize
  obtain ⟨Y, hYe⟩ : ∃ Y, Y = w.heap.size := ⟨_, rfl⟩
  rw [← hYe] at hY2
  have HYE := Lib.hid hYe
  have h := HW0.out
  have h0 := H0.out
  have hYB : Y ≠ B := by have := h.ltB; omega
  have hOB : V.heap.size ≠ B := by have := h.ltB; omega
  have z0 : V2.cell? ⟨V.heap.size, 0, none⟩ = some (.int .u8 (o.k : Int)) := cell_of_row _ _ 0 _ _ _ hO2
  obtain ⟨L1, hL1⟩ : ∃ L1, L1 = s.left - 1 := ⟨_, rfl⟩
  have hlw : IntKind.i64.wrap ((s.left : Int) - 1) = (L1 : Int) := by rw [IntKind.wrap_i64]; omega
  have haw : IntKind.i64.wrap ((s.at_ : Int) + 1) = (s.at_ : Int) + 1 := by rw [IntKind.wrap_i64]; omega
  have e0 : ((s.left : Int) == 0) = false := by rw [beq_eq_false_iff_ne]; omega
  have n0 : ¬ (s.left : Int) = 0 := by omega
  have hn2 := HN.out.below hb2
  have l2 : V2.cell? ⟨B, 7, none⟩ = some (.int .i64 (s.left : Int)) := hn2.cell 7
  have lf := hn2.fro 7
  obtain ⟨V3, hV3⟩ : ∃ X, X = V2.setCell ⟨B, 7, none⟩ (.int .i64 (L1 : Int)) := ⟨_, rfl⟩
  have hn3 : Ev.Rn B R (.slice (some ad) l.length pc) u v t A c js ds { s with left := L1 } V3 := by rw [hV3]; exact hn2.setT _ js 7 _ rfl rfl rfl rfl
  have hm3 : Gm.Mvg (Ev.ROff B R u v) (Ev.ROff B R u v) w V3 := by rw [hV3]; exact Ev.mvg_set (Gm.Mvg.of_below (HB.out.trans (hb2.mono HB.out.size))) (fun i _ ho => ho.1) _ _
  have hY3 : V3.heap[Y]? = some (.cells #[.int .u8 0, .int .i64 0, .int .i64 0, .int .i64 0, .int .i64 0] 72 (0, 0)) := by rw [hV3, Below.heap_setCell _ _ _ _ hYB]; exact hY2
  have hO3 : V3.heap[V.heap.size]? = some (.cells #[.int .u8 (o.k : Int), .int .i64 o.d, .int .i64 o.a, .int .i64 o.b, .int .i64 o.n] 72 (0, 0)) := by rw [hV3, Below.heap_setCell _ _ _ _ hOB]; exact hO2
  obtain ⟨O, hOe⟩ : ∃ O, O = V.heap.size := ⟨_, rfl⟩
  rw [← hOe] at hO3 hOB
  have HPL : Hid (Calls Tryz.prog 67 #[.agg #[.int .u8 (o.k : Int), .int .i64 o.d, .int .i64 o.a, .int .i64 o.b, .int .i64 o.n]] V3 fun e w' => e = .returned (.bool true) ∧ Below V3.heap.size V3 w') := by
    have h := rPlain13 o V3
    rw [show decide (o.k ≠ 12 ∧ o.k ≠ 13 ∧ o.k ≠ 14) = true by simp; omega] at h
    exact h
  have o0' : V3.cell? ⟨O, 0, none⟩ = some (.int .u8 (o.k : Int)) := cell_of_row _ _ 0 _ _ _ hO3
  have o1' : V3.cell? ⟨O, 1, none⟩ = some (.int .i64 o.d) := cell_of_row _ _ 1 _ _ _ hO3
  have o2' : V3.cell? ⟨O, 2, none⟩ = some (.int .i64 o.a) := cell_of_row _ _ 2 _ _ _ hO3
  have o3' : V3.cell? ⟨O, 3, none⟩ = some (.int .i64 o.b) := cell_of_row _ _ 3 _ _ _ hO3
  have o4' : V3.cell? ⟨O, 4, none⟩ = some (.int .i64 o.n) := cell_of_row _ _ 4 _ _ _ hO3
  have HOPC := Lib.hid (fun (W : World) (hW : Ev.Rn B R (.slice (some ad) l.length pc) u v t A c js ds { s with left := L1 } W) => rop13 hW o hg hk12 hr (show s.at_ ≤ 1000 by omega))
  have HPD : Hid (Ev.paid s = { s with left := L1, at_ := s.at_ + 1 }) := by show _ = _; rw [hL1]; rfl
  have HN3 := Lib.hid hn3
  have HM3 := Lib.hid hm3
  have HY3 := Lib.hid hY3
  have HO3 := Lib.hid hO3
  have HNE := Lib.hid (And.intro hYB hOB)
  have HYE := Lib.hid hYe
  have HOE := Lib.hid hOe
  have HYZ : Hid (w.heap.size ≤ Y) := by show _ ≤ _; omega
  have HYV : Hid (w.heap.size < V3.heap.size ∧ Y = w.heap.size) := ⟨by have := Cd.ltH hY3; omega, hYe⟩
  clear hb2 hO2 hY2 hO0 hsV hYe hOe hn2 hn3 hm3 hY3 hO3 hYB hOB z0 hL1 h0 h hk12 hl16 ha64 hg hr haw
  go_enter Tryz.func53, Tryz.ntmps53
  go_upto_region 1 with fail
  rw [← hV, ← HYE.out]
  clear hV
  go_region
  go_upto_region 2 with fail
  rw [← hV2, ← HOE.out]
  clear hV2 g0a g1a g2a g3a h0a h1a h2a h3a h4a b0 b2 b6 c2 o0 o1 o2 o3 o4
  go_upto_region 5 with fail
  rw [← hV3]
  clear hV3 l2 lf
  go_wp2_with fail
  refine HPL.out.mono ?_
  rintro e w4 ⟨rfl, hb4⟩
  have hm4 : Gm.Mvg (Ev.ROff B R u v) (Ev.ROff B R u v) w w4 := HM3.out.trans (Gm.Mvg.of_below hb4)
  have hY4 := (hb4.block _ (Cd.ltH HY3.out)).trans HY3.out
  have hO4 := (hb4.block _ (Cd.ltH HO3.out)).trans HO3.out
  have HST : Hid ({ s with left := L1 } = ({ Ev.paid s with at_ := s.at_ } : Ev.St)) := by show _ = _; rw [HPD.out]
  have HY4 : Hid (Ev.ROff B R u v Y ∧ Ev.ROff B R u v O) := ⟨HW0.out.fresh (by have := HYV.out.2; omega), HW0.out.fresh (by have h1 := HOE.out; have h2 := HB.out.size; omega)⟩
  have HOP : Hid (∀ U, Below w4.heap.size w4 U → Calls Tryz.prog 83 #[.pointer (some ⟨B, 0, none⟩), .agg #[.int .u8 (o.k : Int), .int .i64 o.d, .int .i64 o.a, .int .i64 o.b, .int .i64 o.n]] U fun e w' => e = .returned (.int .i64 (Ev.plE (Ev.paid s) o)) ∧ Hid (Ev.Rn B R (.slice (some ad) l.length pc) u v t A c js ds (Ev.plS (Ev.paid s) o) w' ∧ Gm.Mvg (Ev.ROff B R u v) (Ev.ROff B R u v) w w' ∧ w'.heap[Y]? = some (.cells #[.int .u8 0, .int .i64 0, .int .i64 0, .int .i64 0, .int .i64 0] 72 (0, 0)) ∧ w'.heap[O]? = some (.cells #[.int .u8 (o.k : Int), .int .i64 o.d, .int .i64 o.a, .int .i64 o.b, .int .i64 o.n] 72 (0, 0)))) := fun U hU => by
    refine (HOPC.out U ((HN3.out.below hb4).below hU)).mono ?_
    rintro e w' ⟨rfl, h1, h2⟩
    refine ⟨by rw [HPD.out], ?_, (hm4.trans (Gm.Mvg.of_below hU)).trans h2, ?_, ?_⟩
    · rw [HPD.out]; exact h1
    · exact (h2.block Y (Nat.lt_of_lt_of_le (Cd.ltH hY4) hU.size) HY4.out.1).trans ((hU.block _ (Cd.ltH hY4)).trans hY4)
    · exact (h2.block O (Nat.lt_of_lt_of_le (Cd.ltH hO4) hU.size) HY4.out.2).trans ((hU.block _ (Cd.ltH hO4)).trans hO4)
  have SC : ∀ W : World, W.heap[O]? = some (.cells #[.int .u8 (o.k : Int), .int .i64 o.d, .int .i64 o.a, .int .i64 o.b, .int .i64 o.n] 72 (0, 0)) → W.cell? ⟨O, 0, none⟩ = some (.int .u8 (o.k : Int)) ∧ W.cell? ⟨O, 1, none⟩ = some (.int .i64 o.d) ∧ W.cell? ⟨O, 2, none⟩ = some (.int .i64 o.a) ∧ W.cell? ⟨O, 3, none⟩ = some (.int .i64 o.b) ∧ W.cell? ⟨O, 4, none⟩ = some (.int .i64 o.n) := fun W h => ⟨cell_of_row _ _ 0 _ _ _ h, cell_of_row _ _ 1 _ _ _ h, cell_of_row _ _ 2 _ _ _ h, cell_of_row _ _ 3 _ _ _ h, cell_of_row _ _ 4 _ _ _ h⟩
  have HSC := Lib.hid SC
  have HYC : Hid (∀ W : World, W.heap[Y]? = some (.cells #[.int .u8 0, .int .i64 0, .int .i64 0, .int .i64 0, .int .i64 0] 72 (0, 0)) → W.cell? ⟨Y, 0, none⟩ = some (.int .u8 0) ∧ W.cell? ⟨Y, 1, none⟩ = some (.int .i64 0) ∧ W.cell? ⟨Y, 2, none⟩ = some (.int .i64 0) ∧ W.cell? ⟨Y, 3, none⟩ = some (.int .i64 0) ∧ W.cell? ⟨Y, 4, none⟩ = some (.int .i64 0) ∧ W.frozen? ⟨Y, 0, none⟩ = false ∧ W.frozen? ⟨Y, 1, none⟩ = false ∧ W.frozen? ⟨Y, 2, none⟩ = false ∧ W.frozen? ⟨Y, 3, none⟩ = false ∧ W.frozen? ⟨Y, 4, none⟩ = false) := fun W h => ⟨cell_of_row _ _ 0 _ _ _ h, cell_of_row _ _ 1 _ _ _ h, cell_of_row _ _ 2 _ _ _ h, cell_of_row _ _ 3 _ _ _ h, cell_of_row _ _ 4 _ _ _ h, frozen_of_row _ _ 0 _ _ h, frozen_of_row _ _ 1 _ _ h, frozen_of_row _ _ 2 _ _ h, frozen_of_row _ _ 3 _ _ h, frozen_of_row _ _ 4 _ _ h⟩
  have S4 := SC w4 hO4
  clear SC hm4 hY4 hO4 o0' o1' o2' o3' o4' hb4 HOPC
  go_upto_region 8 with fail
  have hrf : Below w4.heap.size w4 w4.drew := (Below.refl _ _).drew
  go_region_with (go_at_call 83
                  refine (HOP.out _ hrf).mono ?_
                  rintro e w5 ⟨rfl, hh⟩
                  obtain ⟨y0, y1, y2, y3, y4, yf0, yf1, yf2, yf3, yf4⟩ := HYC.out _ hh.out.2.2.1
                  obtain ⟨x0, x1, x2, x3, x4⟩ := HSC.out _ hh.out.2.2.2)
  all_goals
    have HY := Lib.hid (Ev.set5_heap (.int .u8 (o.k : Int)) (.int .i64 o.d) (.int .i64 o.a) (.int .i64 o.b) (.int .i64 o.n) hh.out.2.2.1)
    have HFIN : Hid (Ev.RStepP B R (.slice (some ad) l.length pc) u v t A c js ds (Ev.plS (Ev.paid s) o) o (Ev.plE (Ev.paid s) o) w (.returned (.tuple #[.agg #[.int .u8 (o.k : Int), .int .i64 o.d, .int .i64 o.a, .int .i64 o.b, .int .i64 o.n], .int .i64 (Ev.plE (Ev.paid s) o)])) (Ev.set5 w5 Y (.int .u8 (o.k : Int)) (.int .i64 o.d) (.int .i64 o.a) (.int .i64 o.b) (.int .i64 o.n))) := by
      refine ⟨rfl, ?_, Ev.set5_mv hh.out.2.1 (fun i hi _ => by have := HYV.out.2; omega) _ _ _ _ _⟩
      exact hh.out.1.of (Ev.set5_other _ _ _ _ _ (fun e => HNE.out.1 e.symm)) (Ev.set5_other _ _ _ _ _ (fun e => by have h1 := HW0.out.ltR; have h2 := HYV.out.2; omega)) (fun i hi => Ev.set5_other _ _ _ _ _ (fun e => by have h1 := (HW0.out.rowu.lt i hi).2; have h2 := HYV.out.2; omega)) (fun i hi => Ev.set5_other _ _ _ _ _ (fun e => by have h1 := (HW0.out.rowv.lt i hi).2; have h2 := HYV.out.2; omega))
    clear y0 y1 y2 y3 y4 yf0 yf1 yf2 yf3 yf4 x0 x1 x2 x3 x4 hh
    go_wp2_with fail
    refine bodyPost_ret (v := .tuple #[.agg #[.int .u8 (o.k : Int), .int .i64 o.d, .int .i64 o.a, .int .i64 o.b, .int .i64 o.n], .int .i64 (Ev.plE (Ev.paid s) o)]) (Cd.results_ct Tryz.results53 _ _ Y 72 #[.int .u8 (o.k : Int), .int .i64 o.d, .int .i64 o.a, .int .i64 o.b, .int .i64 o.n] (0, 0) _ rfl HY.out Tryz.underlying72 rfl HI.out _ rfl) rfl ?_
    exact HFIN.out
end Go.Proofs.YtepnofklmdofmaaGreatDoor
