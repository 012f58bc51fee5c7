/-
  Layer 13: the document's Step where nothing is left.
  Layer 13: the document's Step at a fork, a join or a return.
-/
import Derived.Test.YtepnofklmdofmaaGreatDoorLowRvF
import Derived.Test.YtepnofklmdofmaaGreatDoorLowCdN
import Derived.Test.YtepnofklmdofmaaGreatDoorEvG
section
namespace Go.Proofs.YtepnofklmdofmaaGreatDoor
open Go.RowKit

namespace Ev
def set5 (w : World) (Q : Nat) (x y z u v : Value) : World := ((((w.setCell ⟨Q, 0, none⟩ x).setCell ⟨Q, 1, none⟩ y).setCell ⟨Q, 2, none⟩ z).setCell ⟨Q, 3, none⟩ u).setCell ⟨Q, 4, none⟩ v
theorem set5_heap {w : World} {Q : Nat} {a b c d e : Value} (x y z u v : Value) {T : TypeId} (h : w.heap[Q]? = some (.cells #[a, b, c, d, e] T (0, 0))) : (set5 w Q x y z u v).heap[Q]? = some (.cells #[x, y, z, u, v] T (0, 0)) := by
  unfold set5
  rw [heap_setCell_same _ _ _ _ _ _ (heap_setCell_same _ _ _ _ _ _ (heap_setCell_same _ _ _ _ _ _ (heap_setCell_same _ _ _ _ _ _ (heap_setCell_same _ _ _ _ _ _ h))))]
  rfl
theorem set5_below {lo : Nat} {w w' : World} {Q : Nat} (h : Below lo w w') (hQ : lo ≤ Q) (x y z u v : Value) : Below lo w (set5 w' Q x y z u v) := ((((h.setCell hQ _).setCell hQ _).setCell hQ _).setCell hQ _).setCell hQ _
/-- A step of the document: the op, its error, what is left behind. -/
def RStepP (B R : Nat) (F u v : Value) (t : Tsk) (A : Option Addr) (c : Nat) (js : List Int) (ds : List Dm) (s' : St) (o : Cd.OpV) (er : Int) (w : World) (e : Ending) (w' : World) : Prop :=
  e = .returned (.tuple #[.agg #[.int .u8 (o.k : Int), .int .i64 o.d, .int .i64 o.a, .int .i64 o.b, .int .i64 o.n], .int .i64 er]) ∧ Rn B R F u v t A c js ds s' w' ∧ Gm.Mvg (ROff B R u v) (ROff B R u v) w w'
end Ev

set_option maxHeartbeats 2000000 in
set_option maxRecDepth 20000 in
theorem rstep_zero {B R : Nat} {PA : Option Addr} {pc : Nat} {u v : Value} {t : Ev.Tsk} {A : Option Addr} {c : Nat} {js : List Int} {ds : List Ev.Dm} {s : Ev.St} {w : World} {l : List Cd.Fm} (h : Ev.Rn B R (.slice PA l.length pc) u v t A c js ds s w) (hP : Cd.Prog w w.heap.size PA l) (fi : Nat) (hfi : t.fn = (fi : Int)) (hfl : fi < l.length) (hat : s.at_ < l[fi].f.ops.length) (h0 : s.left = 0) :
    Calls Tryz.prog 53 #[.pointer (some ⟨B, 0, none⟩)] w (Ev.RStepP B R (.slice PA l.length pc) u v t A c js ds s l[fi].f.ops[s.at_] 130 w) := by
  obtain ⟨V, hV⟩ : ∃ V, V = w.alloc (.cells #[.int .u8 0, .int .i64 0, .int .i64 0, .int .i64 0, .int .i64 0] 72) := ⟨_, rfl⟩
  have hbV : Below w.heap.size w V := by rw [hV]; exact Cd.fn1 _ _ _
  have hsV : V.heap.size = w.heap.size + 1 := by rw [hV]; simp
  have hO0 : V.heap[w.heap.size]? = some (.cells #[.int .u8 0, .int .i64 0, .int .i64 0, .int .i64 0, .int .i64 0] 72 (0, 0)) := by rw [hV]; exact heap_alloc_new w _
  have hN := h.below hbV
  have hP2 := (hP.below hbV).mono hbV.size
  obtain ⟨ad, rfl, hadl, c0, c1, c2⟩ := Cd.fn_at hP2.fs hfl
  obtain ⟨ao, ea, haol, o0, o1, o2, o3, o4⟩ := Cd.op_at (hP2.os _ (List.getElem_mem hfl)) hat
  have b0 : V.cell? ⟨B, 0, none⟩ = some (.slice (some ad) l.length pc) := hN.cell 0
  have b2 : V.cell? ⟨B, 2, none⟩ = some (.int .i64 (fi : Int)) := by rw [← hfi]; exact hN.cell 2
  have b6 : V.cell? ⟨B, 6, none⟩ = some (.int .i64 (s.at_ : Int)) := hN.cell 6
  have f0 : (0 : Int) ≤ (fi : Int) := by omega
  have fl : (fi : Int) < (l.length : Int) := by omega
  have g0 : (0 : Int) ≤ (s.at_ : Int) := by omega
  have g1 : (s.at_ : Int) < (l[fi].f.ops.length : Int) := by omega
  have HN := Lib.hid hN
  have HW0 := Lib.hid h
  have HM := Lib.hid (Gm.Mvg.of_below (off := Ev.ROff B R u v) hbV)
  have HB := Lib.hid hbV
  have H0 := Lib.hid h0
  rw [ea] at c2
  generalize l[fi].f.ops[s.at_] = o at o0 o1 o2 o3 o4 ⊢
  generalize l[fi].f.ops.length = nops at c2 g1
  generalize l[fi].c = oc at c2
  clear hN hbV h hP hP2 hat ea h0 c0 c1 haol hadl
  have g0a := fun x => Ev.cell_alloc x b0
  have g1a := fun x => Ev.cell_alloc x b2
  have g2a := fun x => Ev.cell_alloc x b6
  have g3a := fun x => Ev.cell_alloc x c2
  have h0a := fun x => Ev.cell_alloc x o0
  have h1a := fun x => Ev.cell_alloc x o1
  have h2a := fun x => Ev.cell_alloc x o2
  have h3a := fun x => Ev.cell_alloc x o3
  have h4a := fun x => Ev.cell_alloc x o4
  obtain ⟨V2, hV2⟩ : ∃ X, X = (V.alloc (.cells #[.int .u8 (o.k : Int), .int .i64 o.d, .int .i64 o.a, .int .i64 o.b, .int .i64 o.n] 72)).drew := ⟨_, rfl⟩
  have hb2 : Below V.heap.size V V2 := by rw [hV2]; exact (Cd.fn1 _ _ _).drew
  have hO2 : V2.heap[V.heap.size]? = some (.cells #[.int .u8 (o.k : Int), .int .i64 o.d, .int .i64 o.a, .int .i64 o.b, .int .i64 o.n] 72 (0, 0)) := by rw [hV2]; exact heap_alloc_new V _
  have hY2 := (hb2.block w.heap.size (by omega)).trans hO0
  have HY := Lib.hid (Ev.set5_heap (.int .u8 (o.k : Int)) (.int .i64 o.d) (.int .i64 o.a) (.int .i64 o.b) (.int .i64 o.n) hY2)
  have HFIN : Hid (Ev.RStepP B R (.slice (some ad) l.length pc) u v t A c js ds s o 130 w (.returned (.tuple #[.agg #[.int .u8 (o.k : Int), .int .i64 o.d, .int .i64 o.a, .int .i64 o.b, .int .i64 o.n], .int .i64 130])) (Ev.set5 V2 w.heap.size (.int .u8 (o.k : Int)) (.int .i64 o.d) (.int .i64 o.a) (.int .i64 o.b) (.int .i64 o.n))) := by
    have hb := Ev.set5_below (HB.out.trans (hb2.mono HB.out.size)) (Nat.le_refl w.heap.size) (.int .u8 (o.k : Int)) (.int .i64 o.d) (.int .i64 o.a) (.int .i64 o.b) (.int .i64 o.n)
    exact ⟨rfl, HW0.out.below hb, Gm.Mvg.of_below hb⟩
  have HI : Hid ((Tryz.prog.info? 72).map (·.size) = some 5) := Cd.opSize
  obtain ⟨Y, hYe⟩ : ∃ Y, Y = w.heap.size := ⟨_, rfl⟩
  rw [← hYe] at hY2 HFIN HY
  have HYE := Lib.hid hYe
  have y0 : V2.cell? ⟨Y, 0, none⟩ = some (.int .u8 0) := cell_of_row _ _ 0 _ _ _ hY2
  have y1 : V2.cell? ⟨Y, 1, none⟩ = some (.int .i64 0) := cell_of_row _ _ 1 _ _ _ hY2
  have y2 : V2.cell? ⟨Y, 2, none⟩ = some (.int .i64 0) := cell_of_row _ _ 2 _ _ _ hY2
  have y3 : V2.cell? ⟨Y, 3, none⟩ = some (.int .i64 0) := cell_of_row _ _ 3 _ _ _ hY2
  have y4 : V2.cell? ⟨Y, 4, none⟩ = some (.int .i64 0) := cell_of_row _ _ 4 _ _ _ hY2
  have yf0 := frozen_of_row _ _ 0 _ _ hY2
  have yf1 := frozen_of_row _ _ 1 _ _ hY2
  have yf2 := frozen_of_row _ _ 2 _ _ hY2
  have yf3 := frozen_of_row _ _ 3 _ _ hY2
  have yf4 := frozen_of_row _ _ 4 _ _ hY2
  have z0 : V2.cell? ⟨V.heap.size, 0, none⟩ = some (.int .u8 (o.k : Int)) := cell_of_row _ _ 0 _ _ _ hO2
  have z1 : V2.cell? ⟨V.heap.size, 1, none⟩ = some (.int .i64 o.d) := cell_of_row _ _ 1 _ _ _ hO2
  have z2 : V2.cell? ⟨V.heap.size, 2, none⟩ = some (.int .i64 o.a) := cell_of_row _ _ 2 _ _ _ hO2
  have z3 : V2.cell? ⟨V.heap.size, 3, none⟩ = some (.int .i64 o.b) := cell_of_row _ _ 3 _ _ _ hO2
  have z4 : V2.cell? ⟨V.heap.size, 4, none⟩ = some (.int .i64 o.n) := cell_of_row _ _ 4 _ _ _ hO2
  have l2 : V2.cell? ⟨B, 7, none⟩ = some (.int .i64 0) := by
    have h := (HN.out.below hb2).cell 7
    unfold Ev.rcs at h
    rw [H0.out] at h
    exact h
  obtain ⟨O, hOe⟩ : ∃ O, O = V.heap.size := ⟨_, rfl⟩
  rw [← hOe] at z0 z1 z2 z3 z4
  have HOE := Lib.hid hOe
  clear hb2 hO2 hY2 hO0 hsV hYe hOe
  go_enter Tryz.func53, Tryz.ntmps53
  go_upto_region 1 with fail
  rw [← hV, ← HYE.out]
  clear hV
  go_region
  go_upto_region 2 with fail
  rw [← hV2, ← HOE.out]
  clear hV2 g0a g1a g2a g3a h0a h1a h2a h3a h4a b0 b2 b6 c2 o0 o1 o2 o3 o4
  go_wp2_with fail
  refine bodyPost_ret (v := .tuple #[.agg #[.int .u8 (o.k : Int), .int .i64 o.d, .int .i64 o.a, .int .i64 o.b, .int .i64 o.n], .int .i64 130]) (Cd.results_ct Tryz.results53 _ _ Y 72 #[.int .u8 (o.k : Int), .int .i64 o.d, .int .i64 o.a, .int .i64 o.b, .int .i64 o.n] (0, 0) _ rfl HY.out Tryz.underlying72 rfl HI.out _ rfl) rfl ?_
  exact HFIN.out
end Go.Proofs.YtepnofklmdofmaaGreatDoor
end

section
namespace Go.Proofs.YtepnofklmdofmaaGreatDoor
open Go.RowKit

namespace Ev
theorem set5_other {w : World} {Q i : Nat} (x y z u v : Value) (hi : i ≠ Q) : (set5 w Q x y z u v).heap[i]? = w.heap[i]? :=
  (Below.heap_setCell _ _ _ _ hi).trans ((Below.heap_setCell _ _ _ _ hi).trans ((Below.heap_setCell _ _ _ _ hi).trans ((Below.heap_setCell _ _ _ _ hi).trans (Below.heap_setCell _ _ _ _ hi))))
theorem set5_mv {off off' : Nat → Prop} {w w' : World} (h : Gm.Mvg off off' w w') {Q : Nat} (hQ : ∀ i, i < w.heap.size → off i → i ≠ Q) (x y z u v : Value) : Gm.Mvg off off' w (set5 w' Q x y z u v) := by
  unfold set5
  exact mvg_set (mvg_set (mvg_set (mvg_set (mvg_set h hQ _ _) hQ _ _) hQ _ _) hQ _ _) hQ _ _
end Ev

set_option maxHeartbeats 2000000 in
set_option maxRecDepth 20000 in
theorem rstep_wait {B R : Nat} {PA : Option Addr} {pc : Nat} {u v : Value} {t : Ev.Tsk} {A : Option Addr} {c : Nat} {js : List Int} {ds : List Ev.Dm} {s : Ev.St} {w : World} {l : List Cd.Fm} (h : Ev.Rn B R (.slice PA l.length pc) u v t A c js ds s w) (hP : Cd.Prog w w.heap.size PA l) (fi : Nat) (hfi : t.fn = (fi : Int)) (hfl : fi < l.length) (hat : s.at_ < l[fi].f.ops.length) (h0 : s.left ≠ 0) (hl16 : s.left ≤ 65536) (ha64 : s.at_ ≤ 64) (hk12 : 12 ≤ l[fi].f.ops[s.at_].k ∧ l[fi].f.ops[s.at_].k ≤ 14) :
    Calls Tryz.prog 53 #[.pointer (some ⟨B, 0, none⟩)] w (Ev.RStepP B R (.slice PA l.length pc) u v t A c js ds (Ev.paid s) l[fi].f.ops[s.at_] 0 w) := by
  obtain ⟨V, hV⟩ : ∃ V, V = w.alloc (.cells #[.int .u8 0, .int .i64 0, .int .i64 0, .int .i64 0, .int .i64 0] 72) := ⟨_, rfl⟩
  have hbV : Below w.heap.size w V := by rw [hV]; exact Cd.fn1 _ _ _
  have hsV : V.heap.size = w.heap.size + 1 := by rw [hV]; simp
  have hO0 : V.heap[w.heap.size]? = some (.cells #[.int .u8 0, .int .i64 0, .int .i64 0, .int .i64 0, .int .i64 0] 72 (0, 0)) := by rw [hV]; exact heap_alloc_new w _
  have hN := h.below hbV
  have hP2 := (hP.below hbV).mono hbV.size
  obtain ⟨ad, rfl, hadl, c0, c1, c2⟩ := Cd.fn_at hP2.fs hfl
  obtain ⟨ao, ea, haol, o0, o1, o2, o3, o4⟩ := Cd.op_at (hP2.os _ (List.getElem_mem hfl)) hat
  have b0 : V.cell? ⟨B, 0, none⟩ = some (.slice (some ad) l.length pc) := hN.cell 0
  have b2 : V.cell? ⟨B, 2, none⟩ = some (.int .i64 (fi : Int)) := by rw [← hfi]; exact hN.cell 2
  have b6 : V.cell? ⟨B, 6, none⟩ = some (.int .i64 (s.at_ : Int)) := hN.cell 6
  have f0 : (0 : Int) ≤ (fi : Int) := by omega
  have fl : (fi : Int) < (l.length : Int) := by omega
  have g0 : (0 : Int) ≤ (s.at_ : Int) := by omega
  have g1 : (s.at_ : Int) < (l[fi].f.ops.length : Int) := by omega
  have HN := Lib.hid hN
  have HW0 := Lib.hid h
  have HM := Lib.hid (Gm.Mvg.of_below (off := Ev.ROff B R u v) hbV)
  have HB := Lib.hid hbV
  have H0 := Lib.hid h0
  rw [ea] at c2
  generalize l[fi].f.ops[s.at_] = o at o0 o1 o2 o3 o4 hk12 ⊢
  generalize l[fi].f.ops.length = nops at c2 g1
  generalize l[fi].c = oc at c2
  clear hN hbV h hP hP2 hat ea h0 c0 c1 haol hadl
  have g0a := fun x => Ev.cell_alloc x b0
  have g1a := fun x => Ev.cell_alloc x b2
  have g2a := fun x => Ev.cell_alloc x b6
  have g3a := fun x => Ev.cell_alloc x c2
  have h0a := fun x => Ev.cell_alloc x o0
  have h1a := fun x => Ev.cell_alloc x o1
  have h2a := fun x => Ev.cell_alloc x o2
  have h3a := fun x => Ev.cell_alloc x o3
  have h4a := fun x => Ev.cell_alloc x o4
  obtain ⟨V2, hV2⟩ : ∃ X, X = (V.alloc (.cells #[.int .u8 (o.k : Int), .int .i64 o.d, .int .i64 o.a, .int .i64 o.b, .int .i64 o.n] 72)).drew := ⟨_, rfl⟩
  have hb2 : Below V.heap.size V V2 := by rw [hV2]; exact (Cd.fn1 _ _ _).drew
  have hO2 : V2.heap[V.heap.size]? = some (.cells #[.int .u8 (o.k : Int), .int .i64 o.d, .int .i64 o.a, .int .i64 o.b, .int .i64 o.n] 72 (0, 0)) := by rw [hV2]; exact heap_alloc_new V _
  have hY2 := (hb2.block w.heap.size (by omega)).trans hO0
  have HI : Hid ((Tryz.prog.info? 72).map (·.size) = some 5) := Cd.opSize
  obtain ⟨Y, hYe⟩ : ∃ Y, Y = w.heap.size := ⟨_, rfl⟩
  rw [← hYe] at hY2
  have HYE := Lib.hid hYe
  have h := HW0.out
  have h0 := H0.out
  have hYB : Y ≠ B := by have := h.ltB; omega
  have hOB : V.heap.size ≠ B := by have := h.ltB; omega
  have z0 : V2.cell? ⟨V.heap.size, 0, none⟩ = some (.int .u8 (o.k : Int)) := cell_of_row _ _ 0 _ _ _ hO2
  obtain ⟨L1, hL1⟩ : ∃ L1, L1 = s.left - 1 := ⟨_, rfl⟩
  have hlw : IntKind.i64.wrap ((s.left : Int) - 1) = (L1 : Int) := by rw [IntKind.wrap_i64]; omega
  have haw : IntKind.i64.wrap ((s.at_ : Int) + 1) = (s.at_ : Int) + 1 := by rw [IntKind.wrap_i64]; omega
  have e0 : ((s.left : Int) == 0) = false := by rw [beq_eq_false_iff_ne]; omega
  have n0 : ¬ (s.left : Int) = 0 := by omega
  have hn2 := HN.out.below hb2
  have l2 : V2.cell? ⟨B, 7, none⟩ = some (.int .i64 (s.left : Int)) := hn2.cell 7
  have lf := hn2.fro 7
  obtain ⟨V3, hV3⟩ : ∃ X, X = V2.setCell ⟨B, 7, none⟩ (.int .i64 (L1 : Int)) := ⟨_, rfl⟩
  have hn3 : Ev.Rn B R (.slice (some ad) l.length pc) u v t A c js ds { s with left := L1 } V3 := by rw [hV3]; exact hn2.setT _ js 7 _ rfl rfl rfl rfl
  have hm3 : Gm.Mvg (Ev.ROff B R u v) (Ev.ROff B R u v) w V3 := by rw [hV3]; exact Ev.mvg_set (Gm.Mvg.of_below (HB.out.trans (hb2.mono HB.out.size))) (fun i _ ho => ho.1) _ _
  have hY3 : V3.heap[Y]? = some (.cells #[.int .u8 0, .int .i64 0, .int .i64 0, .int .i64 0, .int .i64 0] 72 (0, 0)) := by rw [hV3, Below.heap_setCell _ _ _ _ hYB]; exact hY2
  have hO3 : V3.heap[V.heap.size]? = some (.cells #[.int .u8 (o.k : Int), .int .i64 o.d, .int .i64 o.a, .int .i64 o.b, .int .i64 o.n] 72 (0, 0)) := by rw [hV3, Below.heap_setCell _ _ _ _ hOB]; exact hO2
  obtain ⟨O, hOe⟩ : ∃ O, O = V.heap.size := ⟨_, rfl⟩
  rw [← hOe] at hO3 hOB
  have HPL : Hid (Calls Tryz.prog 67 #[.agg #[.int .u8 (o.k : Int), .int .i64 o.d, .int .i64 o.a, .int .i64 o.b, .int .i64 o.n]] V3 fun e w' => e = .returned (.bool false) ∧ Below V3.heap.size V3 w') := by
    have h := rPlain13 o V3
    rw [show decide (o.k ≠ 12 ∧ o.k ≠ 13 ∧ o.k ≠ 14) = false by simp; omega] at h
    exact h
  have o0' : V3.cell? ⟨O, 0, none⟩ = some (.int .u8 (o.k : Int)) := cell_of_row _ _ 0 _ _ _ hO3
  have o1' : V3.cell? ⟨O, 1, none⟩ = some (.int .i64 o.d) := cell_of_row _ _ 1 _ _ _ hO3
  have o2' : V3.cell? ⟨O, 2, none⟩ = some (.int .i64 o.a) := cell_of_row _ _ 2 _ _ _ hO3
  have o3' : V3.cell? ⟨O, 3, none⟩ = some (.int .i64 o.b) := cell_of_row _ _ 3 _ _ _ hO3
  have o4' : V3.cell? ⟨O, 4, none⟩ = some (.int .i64 o.n) := cell_of_row _ _ 4 _ _ _ hO3
  have HPD : Hid (Ev.paid s = { s with left := L1, at_ := s.at_ + 1 }) := by show _ = _; rw [hL1]; rfl
  have HN3 := Lib.hid hn3
  have HM3 := Lib.hid hm3
  have HY3 := Lib.hid hY3
  have HO3 := Lib.hid hO3
  have HNE := Lib.hid (And.intro hYB hOB)
  have HYE := Lib.hid hYe
  have HOE := Lib.hid hOe
  have HYZ : Hid (w.heap.size ≤ Y) := by show _ ≤ _; omega
  have HYV : Hid (w.heap.size < V3.heap.size ∧ Y = w.heap.size) := ⟨by have := Cd.ltH hY3; omega, hYe⟩
  clear hb2 hO2 hY2 hO0 hsV hYe hOe hn2 hn3 hm3 hY3 hO3 hYB hOB z0 hL1 h0 h hk12 hl16 ha64
  go_enter Tryz.func53, Tryz.ntmps53
  go_upto_region 1 with fail
  rw [← hV, ← HYE.out]
  clear hV
  go_region
  go_upto_region 2 with fail
  rw [← hV2, ← HOE.out]
  clear hV2 g0a g1a g2a g3a h0a h1a h2a h3a h4a b0 b2 b6 c2 o0 o1 o2 o3 o4
  go_upto_region 5 with fail
  rw [← hV3]
  clear hV3 l2 lf
  go_wp2_with fail
  refine HPL.out.mono ?_
  rintro e w4 ⟨rfl, hb4⟩
  have hn4 := HN3.out.below hb4
  have c6 : w4.cell? ⟨B, 6, none⟩ = some (.int .i64 (s.at_ : Int)) := hn4.cell 6
  have f6 := hn4.fro 6
  obtain ⟨V5, hV5⟩ : ∃ X, X = w4.setCell ⟨B, 6, none⟩ (.int .i64 ((s.at_ : Int) + 1)) := ⟨_, rfl⟩
  have hn5 : Ev.Rn B R (.slice (some ad) l.length pc) u v t A c js ds { s with left := L1, at_ := s.at_ + 1 } V5 := by rw [hV5]; exact hn4.setT _ js 6 _ rfl rfl rfl rfl
  have hm5 : Gm.Mvg (Ev.ROff B R u v) (Ev.ROff B R u v) w V5 := by rw [hV5]; exact Ev.mvg_set (HM3.out.trans (Gm.Mvg.of_below hb4)) (fun i _ ho => ho.1) _ _
  have hY5 : V5.heap[Y]? = some (.cells #[.int .u8 0, .int .i64 0, .int .i64 0, .int .i64 0, .int .i64 0] 72 (0, 0)) := by rw [hV5, Below.heap_setCell _ _ _ _ HNE.out.1]; exact (hb4.block _ (Cd.ltH HY3.out)).trans HY3.out
  have hO5 : V5.heap[O]? = some (.cells #[.int .u8 (o.k : Int), .int .i64 o.d, .int .i64 o.a, .int .i64 o.b, .int .i64 o.n] 72 (0, 0)) := by rw [hV5, Below.heap_setCell _ _ _ _ HNE.out.2]; exact (hb4.block _ (Cd.ltH HO3.out)).trans HO3.out
  have HFIN : Hid (Ev.RStepP B R (.slice (some ad) l.length pc) u v t A c js ds (Ev.paid s) o 0 w (.returned (.tuple #[.agg #[.int .u8 (o.k : Int), .int .i64 o.d, .int .i64 o.a, .int .i64 o.b, .int .i64 o.n], .int .i64 0])) (Ev.set5 V5 Y (.int .u8 (o.k : Int)) (.int .i64 o.d) (.int .i64 o.a) (.int .i64 o.b) (.int .i64 o.n))) := by
    refine ⟨rfl, ?_, Ev.set5_mv hm5 (fun i hi _ => by have := HYV.out.2; omega) _ _ _ _ _⟩
    rw [HPD.out]
    exact hn5.of (Ev.set5_other _ _ _ _ _ (fun e => HNE.out.1 e.symm)) (Ev.set5_other _ _ _ _ _ (fun e => by have h1 := HW0.out.ltR; have h2 := HYV.out.2; omega)) (fun i hi => Ev.set5_other _ _ _ _ _ (fun e => by have h1 := (HW0.out.rowu.lt i hi).2; have h2 := HYV.out.2; omega)) (fun i hi => Ev.set5_other _ _ _ _ _ (fun e => by have h1 := (HW0.out.rowv.lt i hi).2; have h2 := HYV.out.2; omega))
  have HY := Lib.hid (Ev.set5_heap (.int .u8 (o.k : Int)) (.int .i64 o.d) (.int .i64 o.a) (.int .i64 o.b) (.int .i64 o.n) hY5)
  have y0 : V5.cell? ⟨Y, 0, none⟩ = some (.int .u8 0) := cell_of_row _ _ 0 _ _ _ hY5
  have y1 : V5.cell? ⟨Y, 1, none⟩ = some (.int .i64 0) := cell_of_row _ _ 1 _ _ _ hY5
  have y2 : V5.cell? ⟨Y, 2, none⟩ = some (.int .i64 0) := cell_of_row _ _ 2 _ _ _ hY5
  have y3 : V5.cell? ⟨Y, 3, none⟩ = some (.int .i64 0) := cell_of_row _ _ 3 _ _ _ hY5
  have y4 : V5.cell? ⟨Y, 4, none⟩ = some (.int .i64 0) := cell_of_row _ _ 4 _ _ _ hY5
  have yf0 := frozen_of_row _ _ 0 _ _ hY5
  have yf1 := frozen_of_row _ _ 1 _ _ hY5
  have yf2 := frozen_of_row _ _ 2 _ _ hY5
  have yf3 := frozen_of_row _ _ 3 _ _ hY5
  have yf4 := frozen_of_row _ _ 4 _ _ hY5
  have z0 : V5.cell? ⟨O, 0, none⟩ = some (.int .u8 (o.k : Int)) := cell_of_row _ _ 0 _ _ _ hO5
  have z1 : V5.cell? ⟨O, 1, none⟩ = some (.int .i64 o.d) := cell_of_row _ _ 1 _ _ _ hO5
  have z2 : V5.cell? ⟨O, 2, none⟩ = some (.int .i64 o.a) := cell_of_row _ _ 2 _ _ _ hO5
  have z3 : V5.cell? ⟨O, 3, none⟩ = some (.int .i64 o.b) := cell_of_row _ _ 3 _ _ _ hO5
  have z4 : V5.cell? ⟨O, 4, none⟩ = some (.int .i64 o.n) := cell_of_row _ _ 4 _ _ _ hO5
  clear hn4 hn5 hm5 hY5 hO5 o0' o1' o2' o3' o4' hb4
  go_upto_region 7 with fail
  rw [← hV5]
  clear hV5 c6 f6
  go_wp2_with fail
  refine bodyPost_ret (v := .tuple #[.agg #[.int .u8 (o.k : Int), .int .i64 o.d, .int .i64 o.a, .int .i64 o.b, .int .i64 o.n], .int .i64 0]) (Cd.results_ct Tryz.results53 _ _ Y 72 #[.int .u8 (o.k : Int), .int .i64 o.d, .int .i64 o.a, .int .i64 o.b, .int .i64 o.n] (0, 0) _ rfl HY.out Tryz.underlying72 rfl HI.out _ rfl) rfl ?_
  exact HFIN.out
end Go.Proofs.YtepnofklmdofmaaGreatDoor
end
