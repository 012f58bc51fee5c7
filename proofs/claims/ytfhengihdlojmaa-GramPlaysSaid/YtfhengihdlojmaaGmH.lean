/-
  The document's net: Double.
-/
import Derived.Test.YtfhengihdlojmaaGmG
namespace Go.Proofs.Ytfhengihdlojmaa
open Go.RowKit

namespace Gm
section
variable {R : Nat} {v vc : Value} {last : Int} {l : List Msg} {cs : List Wy} {w : World}
theorem DNet.off1 (h : DNet R v vc last l cs w) {B : Nat} (hB : NOff R v vc B) (x0 : Value) : DNet R v vc last l cs (w.setCell ⟨B, 0, none⟩ x0) := by
  have hk : ∀ i, i ≠ B → (w.setCell ⟨B, 0, none⟩ x0).heap[i]? = w.heap[i]? := fun i hi => Below.heap_setCell _ _ _ _ hi
  exact ⟨(hk R (fun e => hB.1 e.symm)).trans h.obj, ownsKeep h.row (fun i hi => hk i (fun e => hB.2.1 (by rw [← e]; exact hi.symm))), ownsKeep h.rowc (fun i hi => hk i (fun e => hB.2.2 (by rw [← e]; exact hi.symm))), h.ne, h.nec, h.nev⟩
theorem moved1 {off off' : Nat → Prop} {w w' : World} {B : Nat} (mv : Mvg off off' w w') (hB : w.heap.size ≤ B) (x0 : Value) : Mvg off off' w (w'.setCell ⟨B, 0, none⟩ x0) := by
  refine ⟨mv.os, mv.tape, mv.output, Nat.le_trans mv.size (by simp [World.setCell]), fun i hi ho => ?_, mv.keep⟩
  have hne : i ≠ B := by omega
  rw [Below.heap_setCell _ _ _ _ hne]
  exact mv.block i hi ho
end
end Gm

set_option maxRecDepth 20000 in
set_option maxHeartbeats 4000000 in
theorem ndouble {R : Nat} {v vc : Value} {last : Int} {l : List Gm.Msg} {cs : List Gm.Wy} {w : World} (h : Gm.DNet R v vc last l cs w) (hl : l.length ≤ 100000) (hd : Gm.DistM l) (l0 : 0 ≤ last) (l1 : last ≤ 900000) (id : Int) :
    Calls Try.prog 14 #[.pointer (some ⟨R, 0, none⟩), .int .u64 id] w fun e w' =>
      e = .returned (.tuple #[.int .u64 (Gm.dblN id last l), .int .i64 (Gm.dblC id l)]) ∧ ∃ v', Gm.DNet R v' vc (Gm.dblM id last l) (Gm.dblL id last l) cs w' ∧ Gm.Mvg (Gm.NOff R v vc) (Gm.NOff R v' vc) w w' := by
  have H := Lib.hid h
  have HF := Lib.hid (nfind h hl id)
  have HD := Lib.hid hd
  have c1 := h.c1
  obtain ⟨A1, n1, rfl⟩ := Gm.own_form h.row
  have HLI := Lib.hid (Gm.own_liesM h.row)
  clear h hd
  go_enter Try.func14, Try.ntmps14
  go_wp2_with fail
  refine HF.out.mono ?_
  rintro e w1 ⟨⟨r, rfl, hr⟩, rfl⟩
  rcases hr with ⟨rfl, hn⟩ | ⟨i, hi, rfl, hk⟩
  · have HE : Hid (Gm.dblC id l = 5 ∧ Gm.dblN id last l = 0 ∧ Gm.dblM id last l = last ∧ Gm.dblL id last l = l) := by
      have hh : Gm.hasM id l = false := by
        rw [← Bool.not_eq_true, Gm.hasM_iff]
        rintro ⟨x, hx, e⟩
        exact hn x hx e
      have e : Gm.dblC id l = 5 := by unfold Gm.dblC; rw [if_pos hh]
      unfold Gm.dblN Gm.dblM Gm.dblL
      rw [e]
      exact ⟨rfl, rfl, rfl, rfl⟩
    clear hn
    go_wp2_with fail
    refine bodyPost_ret (results_tmp2 rfl _ _ _) rfl ?_
    exact ⟨by rw [HE.out.1, HE.out.2.1]; rfl, _, by rw [HE.out.2.2.1, HE.out.2.2.2]; exact H.out, Gm.Mvg.refl _ _⟩
  · have i0 : (0 : Int) ≤ (i : Int) := by omega
    have i1 : (i : Int) < l.length := by omega
    have i2 : decide ((i : Int) < 0) = false := by simp
    have hx : l[i] ∈ l := List.getElem_mem hi
    have hfi : Gm.findM id l = some l[i] := by rw [← hk]; exact Gm.findM_some HD.out hx
    have hh : ¬ Gm.hasM id l = false := by
      rw [Bool.not_eq_false, Gm.hasM_iff]
      exact ⟨_, hx, hk⟩
    obtain ⟨p, rfl, hpb, hp0, hp1, hp2, hp3⟩ := Gm.at4 HLI.out hi
    generalize l[i] = x at hp0 hp1 hp2 hp3 hfi
    obtain ⟨xi, xf, xt, xs⟩ := x
    simp only [] at hp0 hp1 hp2 hp3
    by_cases hr : 4096 ≤ l.length
    · have HE : Hid (Gm.dblC id l = 6 ∧ Gm.dblN id last l = 0 ∧ Gm.dblM id last l = last ∧ Gm.dblL id last l = l) := by
        have e : Gm.dblC id l = 6 := by unfold Gm.dblC; rw [if_neg hh, if_pos hr]
        unfold Gm.dblN Gm.dblM Gm.dblL
        rw [e]
        exact ⟨rfl, rfl, rfl, rfl⟩
      have d1 : (4096 : Int) ≤ (l.length : Int) := by omega
      clear hr hh hfi hx hk hp0 hp1 hp2 hp3 hpb hi
      go_wp2_with fail
      refine bodyPost_ret (results_tmp2 rfl _ _ _) rfl ?_
      exact ⟨by rw [HE.out.1, HE.out.2.1]; rfl, _, by rw [HE.out.2.2.1, HE.out.2.2.2]; exact H.out, Gm.Mvg.refl _ _⟩
    · obtain ⟨nx, hnx⟩ : ∃ nx : Int, last + 1 = nx := ⟨_, rfl⟩
      have HE : Hid (Gm.dblC id l = 0 ∧ Gm.dblN id last l = nx ∧ Gm.dblM id last l = nx ∧ Gm.dblL id last l = l ++ [⟨nx, xf, xt, xs⟩]) := by
        have e : Gm.dblC id l = 0 := by unfold Gm.dblC; rw [if_neg hh, if_neg hr]
        unfold Gm.dblN Gm.dblM Gm.dblL
        rw [e, hfi, hnx]
        exact ⟨rfl, rfl, rfl, rfl⟩
      have d1 : ¬ (4096 : Int) ≤ (l.length : Int) := by omega
      have hnw : IntKind.u64.wrap nx = nx := by rw [IntKind.wrap_u64]; omega
      obtain ⟨W, hW⟩ : ∃ W, W = w.alloc (.cells #[.int .u64 xi, .int .i64 xf, .int .i64 xt, .string xs] 41) := ⟨_, rfl⟩
      have hbW : Below w.heap.size w W := by rw [hW]; exact (Below.refl _ _).alloc (Nat.le_refl _) _
      have hrow : W.heap[w.heap.size]? = some (.cells #[.int .u64 xi, .int .i64 xf, .int .i64 xt, .string xs] 41 (0, 0)) := by rw [hW]; exact heap_alloc_new w _
      have hoff := Gm.NOff.fresh H.out (Nat.le_refl w.heap.size)
      have hD := H.out.below hbW
      have HMW : Hid (Gm.Mvg (Gm.NOff R (.slice (some p) l.length n1) vc) (Gm.NOff R (.slice (some p) l.length n1) vc) w W) := .of_below hbW
      have HO := Lib.hid (And.intro hrow hoff)
      clear hr hh hfi hx hk hi HF
      go_upto_region 7 with fail
      rw [← hW]
      clear hW hp0 hp1 hp2 hp3 hpb c1 hbW i0 i1 i2 d1
      have c0 := hD.c0
      have f0 := frozen_of_row _ _ 0 _ _ hD.obj
      have HD1 := Lib.hid (hD.setLast nx)
      have HM1 := Lib.hid (HMW.out.setR 0 (.int .u64 nx))
      have hrV : (W.setCell ⟨R, 0, none⟩ (.int .u64 nx)).heap[w.heap.size]? = some (.cells #[.int .u64 xi, .int .i64 xf, .int .i64 xt, .string xs] 41 (0, 0)) := (Below.heap_setCell _ _ _ _ hoff.1).trans hrow
      clear hD hrow hoff
      obtain ⟨V, hV⟩ : ∃ V, V = W.setCell ⟨R, 0, none⟩ (.int .u64 nx) := ⟨_, rfl⟩
      rw [← hV] at HD1 HM1 hrV
      go_upto_region 8 with fail
      rw [← hV]
      clear hV c0 f0 HMW
      have c0 := HD1.out.c0
      have eB : V.cell? ⟨w.heap.size, 0, none⟩ = some (.int .u64 xi) := cell_of_row _ _ 0 _ _ _ hrV
      have fB := frozen_of_row _ _ 0 _ _ hrV
      have HD2 := Lib.hid (HD1.out.off1 HO.out.2 (.int .u64 nx))
      have HM2 := Lib.hid (Gm.moved1 HM1.out (Nat.le_refl _) (.int .u64 nx))
      have hrU : (V.setCell ⟨w.heap.size, 0, none⟩ (.int .u64 nx)).heap[w.heap.size]? = some (.cells #[.int .u64 nx, .int .i64 xf, .int .i64 xt, .string xs] 41 (0, 0)) := by
        rw [heap_setCell_same _ _ _ _ _ _ hrV]
        rfl
      clear hrV
      obtain ⟨U, hU⟩ : ∃ U, U = V.setCell ⟨w.heap.size, 0, none⟩ (.int .u64 nx) := ⟨_, rfl⟩
      rw [← hU] at HD2 HM2 hrU
      go_upto_region 9 with fail
      rw [← hU]
      clear hU c0 eB fB HD1 HM1
      have c1 := HD2.out.c1
      have x0 : U.cell? ⟨w.heap.size, 0, none⟩ = some (.int .u64 nx) := cell_of_row _ _ 0 _ _ _ hrU
      have x1 : U.cell? ⟨w.heap.size, 1, none⟩ = some (.int .i64 xf) := cell_of_row _ _ 1 _ _ _ hrU
      have x2 : U.cell? ⟨w.heap.size, 2, none⟩ = some (.int .i64 xt) := cell_of_row _ _ 2 _ _ _ hrU
      have x3 : U.cell? ⟨w.heap.size, 3, none⟩ = some (.string xs) := cell_of_row _ _ 3 _ _ _ hrU
      have HRU := Lib.hid hrU
      have hbA : Below U.heap.size U (U.alloc (.cells #[.int .u64 nx, .int .i64 xf, .int .i64 xt, .string xs] 41)) := (Below.refl _ _).alloc (Nat.le_refl _) _
      have hDA := HD2.out.below hbA
      have HDA : Hid (Gm.DNet R (.slice (some p) l.length n1) vc nx l cs (U.alloc (.cells #[.int .u64 nx, .int .i64 xf, .int .i64 xt, .string xs] 41)).drew) := hDA.below ((Below.refl _ _).drew)
      have HBL : Hid ((U.alloc (.cells #[.int .u64 nx, .int .i64 xf, .int .i64 xt, .string xs] 41)).drew.heap[U.heap.size]? = some (.cells #[.int .u64 nx, .int .i64 xf, .int .i64 xt, .string xs] 41 (0, 0))) := heap_alloc_new U _
      have HMA : Hid (Gm.Mvg (Gm.NOff R (.slice (some p) l.length n1) vc) (Gm.NOff R (.slice (some p) l.length n1) vc) w (U.alloc (.cells #[.int .u64 nx, .int .i64 xf, .int .i64 xt, .string xs] 41)).drew) := HM2.out.trans (.of_below hbA.drew)
      have c1' : (U.alloc (.cells #[.int .u64 nx, .int .i64 xf, .int .i64 xt, .string xs] 41)).cell? ⟨R, 1, none⟩ = some (.slice (some p) l.length n1) := hDA.c1
      have HXA : Hid ((U.alloc (.cells #[.int .u64 nx, .int .i64 xf, .int .i64 xt, .string xs] 41)).drew.heap[w.heap.size]? = some (.cells #[.int .u64 nx, .int .i64 xf, .int .i64 xt, .string xs] 41 (0, 0))) := (hbA.block _ (Gm.ltHeap hrU)).trans hrU
      clear hbA hDA hrU
      go_region_law (first
        | (refine Gm.gpush_step (U := (U.alloc (.cells #[.int .u64 nx, .int .i64 xf, .int .i64 xt, .string xs] 41)).drew) HDA.out.row (by rfl) _ _ (by rfl) (by rfl) (by rfl) ⟨nx, xf, xt, xs⟩ HBL.out hl ?_
           intro g cap w4 hown hgr hg
           have hPU := Lib.hid (HDA.out.push hown hgr hg)
           obtain ⟨x4, y4⟩ := HDA.out.at1 hgr))
      all_goals
        have hXW := (hPU.out.2.block _ (Gm.ltHeap HXA.out) HO.out.2).trans HXA.out
        have e0 := cell_of_row _ _ 0 _ _ _ hXW
        have HNEW : Hid (Gm.DNet R (.slice (some ⟨g, 0, none⟩) (l.length + 1) cap) vc nx (l ++ [⟨nx, xf, xt, xs⟩]) cs (w4.setCell ⟨R, 1, none⟩ (.slice (some ⟨g, 0, none⟩) (l.length + 1) cap)) ∧ Gm.Mvg (Gm.NOff R (.slice (some p) l.length n1) vc) (Gm.NOff R (.slice (some ⟨g, 0, none⟩) (l.length + 1) cap) vc) w (w4.setCell ⟨R, 1, none⟩ (.slice (some ⟨g, 0, none⟩) (l.length + 1) cap))) := ⟨hPU.out.1, HMA.out.trans hPU.out.2⟩
        clear hown hgr hg hPU x4 y4 HDA HBL HMA c1' c1 x0 x1 x2 x3 hXW HXA HD2 HM2
        simp only [Exit.then]
        first | go_at_K | skip
        go_wp2_with fail
        refine bodyPost_ret (results_tmp2 rfl _ _ _) rfl ?_
        exact ⟨by rw [HE.out.1, HE.out.2.1]; rfl, _, by rw [HE.out.2.2.1, HE.out.2.2.2]; exact HNEW.out.1, HNEW.out.2⟩
end Go.Proofs.Ytfhengihdlojmaa
