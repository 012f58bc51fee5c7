/-
  The document's net: Take.
-/
import Derived.Test.YtfhengihdlojmaaGmD
namespace Go.Proofs.Ytfhengihdlojmaa
open Go.RowKit

namespace Gm
def Msg.val (x : Msg) : Value := .agg #[.int .u64 x.id, .int .i64 x.fr, .int .i64 x.to, .string x.text]
def noMsg : Msg := ⟨0, 0, 0, ⟨#[]⟩⟩
/-- What Take answers, and what it leaves. -/
def TakeR (id : Int) (cs : List Wy) (l : List Msg) (e : Ending) (l' : List Msg) : Prop :=
  ((∀ x ∈ l, x.id ≠ id) ∧ e = .returned (.tuple #[noMsg.val, .int .i64 5]) ∧ l' = l) ∨
  ∃ x ∈ l, x.id = id ∧ ((isCut x.fr x.to cs = true ∧ e = .returned (.tuple #[noMsg.val, .int .i64 90]) ∧ l' = l) ∨ (isCut x.fr x.to cs = false ∧ e = .returned (.tuple #[x.val, .int .i64 0]) ∧ l' = dropM id l))
/-- Four cells written. -/
theorem cells4 {w : World} {B : Nat} {T : TypeId} {v0 v1 v2 v3 : Value} (h : w.heap[B]? = some (.cells #[v0, v1, v2, v3] T (0, 0))) (x0 x1 x2 x3 : Value) :
    ((((w.setCell ⟨B, 0, none⟩ x0).setCell ⟨B, 1, none⟩ x1).setCell ⟨B, 2, none⟩ x2).setCell ⟨B, 3, none⟩ x3).heap[B]? = some (.cells #[x0, x1, x2, x3] T (0, 0)) := by
  rw [heap_setCell_same _ _ _ _ _ _ (heap_setCell_same _ _ _ _ _ _ (heap_setCell_same _ _ _ _ _ _ (heap_setCell_same _ _ _ _ _ _ h)))]
  rfl
theorem moved4 {off off' : Nat → Prop} {w w' : World} {B : Nat} (mv : Mvg off off' w w') (hB : w.heap.size ≤ B) (x0 x1 x2 x3 : Value) :
    Mvg off off' w ((((w'.setCell ⟨B, 0, none⟩ x0).setCell ⟨B, 1, none⟩ x1).setCell ⟨B, 2, none⟩ x2).setCell ⟨B, 3, none⟩ x3) := by
  refine ⟨mv.os, mv.tape, mv.output, Nat.le_trans mv.size (by simp [World.setCell]), fun i hi ho => ?_, mv.keep⟩
  have hne : i ≠ B := by omega
  rw [Below.heap_setCell _ _ _ _ hne, Below.heap_setCell _ _ _ _ hne, Below.heap_setCell _ _ _ _ hne, Below.heap_setCell _ _ _ _ hne]
  exact mv.block i hi ho
theorem DNet.off4 {R : Nat} {v vc : Value} {last : Int} {l : List Msg} {cs : List Wy} {w : World} (h : DNet R v vc last l cs w) {B : Nat} (hB : NOff R v vc B) (x0 x1 x2 x3 : Value) :
    DNet R v vc last l cs ((((w.setCell ⟨B, 0, none⟩ x0).setCell ⟨B, 1, none⟩ x1).setCell ⟨B, 2, none⟩ x2).setCell ⟨B, 3, none⟩ x3) := by
  have hk : ∀ i, i ≠ B → ((((w.setCell ⟨B, 0, none⟩ x0).setCell ⟨B, 1, none⟩ x1).setCell ⟨B, 2, none⟩ x2).setCell ⟨B, 3, none⟩ x3).heap[i]? = w.heap[i]? := fun i hi => by
    rw [Below.heap_setCell _ _ _ _ hi, Below.heap_setCell _ _ _ _ hi, Below.heap_setCell _ _ _ _ hi, Below.heap_setCell _ _ _ _ hi]
  exact ⟨(hk R (fun e => hB.1 e.symm)).trans h.obj, ownsKeep h.row (fun i hi => hk i (fun e => hB.2.1 (by rw [← e]; exact hi.symm))), ownsKeep h.rowc (fun i hi => hk i (fun e => hB.2.2 (by rw [← e]; exact hi.symm))), h.ne, h.nec, h.nev⟩
end Gm

set_option maxRecDepth 20000 in
set_option maxHeartbeats 2000000 in
theorem ntake {R : Nat} {v vc : Value} {last : Int} {l : List Gm.Msg} {cs : List Gm.Wy} {w : World} (h : Gm.DNet R v vc last l cs w) (hl : l.length ≤ 100000) (hcl : cs.length ≤ 100000) (hd : Gm.DistM l) (id : Int) :
    Calls Try.prog 10 #[.pointer (some ⟨R, 0, none⟩), .int .u64 id] w fun e w' => ∃ v' l', Gm.TakeR id cs l e l' ∧ Gm.DNet R v' vc last l' cs w' ∧ Gm.Mvg (Gm.NOff R v vc) (Gm.NOff R v' vc) w w' := by
  obtain ⟨W, hW⟩ : ∃ W, W = w.alloc (.cells #[.int .u64 0, .int .i64 0, .int .i64 0, .string ⟨#[]⟩] 41) := ⟨_, rfl⟩
  have hbW : Below w.heap.size w W := by rw [hW]; exact (Below.refl _ _).alloc (Nat.le_refl _) _
  have hrow : W.heap[w.heap.size]? = some (.cells #[.int .u64 0, .int .i64 0, .int .i64 0, .string ⟨#[]⟩] 41 (0, 0)) := by rw [hW]; exact heap_alloc_new w _
  have hoff := Gm.NOff.fresh h (Nat.le_refl w.heap.size)
  have hW0 := h.below hbW
  have HF := Lib.hid (nfind hW0 hl id)
  have H := Lib.hid hW0
  have HB := Lib.hid (And.intro hbW (And.intro hrow hoff))
  have HD := Lib.hid hd
  have c1 := hW0.c1
  have e0 : W.cell? ⟨w.heap.size, 0, none⟩ = some (.int .u64 0) := cell_of_row _ _ 0 _ _ _ hrow
  have e1 : W.cell? ⟨w.heap.size, 1, none⟩ = some (.int .i64 0) := cell_of_row _ _ 1 _ _ _ hrow
  have e2 : W.cell? ⟨w.heap.size, 2, none⟩ = some (.int .i64 0) := cell_of_row _ _ 2 _ _ _ hrow
  have e3 : W.cell? ⟨w.heap.size, 3, none⟩ = some (.string ⟨#[]⟩) := cell_of_row _ _ 3 _ _ _ hrow
  have f0 := frozen_of_row _ _ 0 _ _ hrow
  have f1 := frozen_of_row _ _ 1 _ _ hrow
  have f2 := frozen_of_row _ _ 2 _ _ hrow
  have f3 := frozen_of_row _ _ 3 _ _ hrow
  obtain ⟨A, n, rfl⟩ := Gm.own_form h.row
  have HLI := Lib.hid (Gm.own_liesM hW0.row)
  clear h hd hbW hrow hoff hW0
  go_enter Try.func10, Try.ntmps10
  go_wp2_with fail
  rw [← hW]
  clear hW
  refine HF.out.mono ?_
  rintro e w1 ⟨⟨r, rfl, hr⟩, rfl⟩
  rcases hr with ⟨rfl, hn⟩ | ⟨i, hi, rfl, hk⟩
  · have HN := Lib.hid hn
    clear hn
    go_wp2_with fail
    have hr4 := Gm.cells4 HB.out.2.1 (.int .u64 0) (.int .i64 0) (.int .i64 0) (.string ⟨#[]⟩)
    have k0 := cell_of_row _ _ 0 _ _ _ hr4
    have k1 := cell_of_row _ _ 1 _ _ _ hr4
    have k2 := cell_of_row _ _ 2 _ _ _ hr4
    have k3 := cell_of_row _ _ 3 _ _ _ hr4
    exact bodyPost_ret (v := .tuple #[Gm.noMsg.val, .int .i64 5]) (by simp [results, Try.results10, go_sem, k0, k1, k2, k3, Gm.noMsg, Gm.Msg.val]) rfl ⟨_, _, .inl ⟨HN.out, rfl, rfl⟩, H.out.off4 HB.out.2.2 _ _ _ _, Gm.moved4 (.of_below HB.out.1) (Nat.le_refl _) _ _ _ _⟩
  · have i0 : (0 : Int) ≤ (i : Int) := by omega
    have i1 : (i : Int) < l.length := by omega
    have i2 : decide ((i : Int) < 0) = false := by simp
    obtain ⟨p, rfl, hpb, hp0, hp1, hp2, hp3⟩ := Gm.at4 HLI.out hi
    have hdr := Gm.dropM_at HD.out i hi hk
    have hx : l[i] ∈ l ∧ (l[i]).id = id := ⟨List.getElem_mem hi, hk⟩
    generalize l[i] = x at hp0 hp1 hp2 hp3 hx
    obtain ⟨xi, xf, xt, xs⟩ := x
    simp only [] at hp0 hp1 hp2 hp3
    have HX := Lib.hid hx
    have HDR := Lib.hid hdr
    obtain ⟨W2, hW2⟩ : ∃ W2, W2 = W.alloc (.cells #[.int .u64 xi, .int .i64 xf, .int .i64 xt, .string xs] 41) := ⟨_, rfl⟩
    have hb2 : Below W.heap.size W W2 := by rw [hW2]; exact (Below.refl _ _).alloc (Nat.le_refl _) _
    have hr2 : W2.heap[W.heap.size]? = some (.cells #[.int .u64 xi, .int .i64 xf, .int .i64 xt, .string xs] 41 (0, 0)) := by rw [hW2]; exact heap_alloc_new W _
    have h2 := H.out.below hb2
    have hB2 := (hb2.block _ (Gm.ltHeap HB.out.2.1)).trans HB.out.2.1
    have hbw2 : Below w.heap.size w W2 := HB.out.1.trans (hb2.mono HB.out.1.size)
    have HIC := Lib.hid (niscut h2 hcl xf xt)
    have HG := Lib.hid (ngone h2 hl i hi)
    have H2 := Lib.hid (And.intro h2 (And.intro hB2 (And.intro hr2 (And.intro (Gm.NOff.fresh H.out (Nat.le_refl W.heap.size)) hbw2))))
    have s1 : W2.cell? ⟨W.heap.size, 1, none⟩ = some (.int .i64 xf) := cell_of_row _ _ 1 _ _ _ hr2
    have s2 : W2.cell? ⟨W.heap.size, 2, none⟩ = some (.int .i64 xt) := cell_of_row _ _ 2 _ _ _ hr2
    clear hdr hx hk hb2 hr2 h2 hB2 hbw2
    go_wp2_with fail
    rw [← hW2]
    clear hW2 e0 e1 e2 e3 f0 f1 f2 f3 c1 hp0 hp1 hp2 hp3
    refine HIC.out.mono ?_
    rintro e w3 ⟨rfl, rfl⟩
    cases hic : Gm.isCut xf xt cs with
    | true =>
      have HIC2 := Lib.hid hic
      have e0 : W2.cell? ⟨w.heap.size, 0, none⟩ = some (.int .u64 0) := cell_of_row _ _ 0 _ _ _ H2.out.2.1
      have e1 : W2.cell? ⟨w.heap.size, 1, none⟩ = some (.int .i64 0) := cell_of_row _ _ 1 _ _ _ H2.out.2.1
      have e2 : W2.cell? ⟨w.heap.size, 2, none⟩ = some (.int .i64 0) := cell_of_row _ _ 2 _ _ _ H2.out.2.1
      have e3 : W2.cell? ⟨w.heap.size, 3, none⟩ = some (.string ⟨#[]⟩) := cell_of_row _ _ 3 _ _ _ H2.out.2.1
      have f0 := frozen_of_row _ _ 0 _ _ H2.out.2.1
      have f1 := frozen_of_row _ _ 1 _ _ H2.out.2.1
      have f2 := frozen_of_row _ _ 2 _ _ H2.out.2.1
      have f3 := frozen_of_row _ _ 3 _ _ H2.out.2.1
      clear hic
      go_wp2_with fail
      have hr4 := Gm.cells4 H2.out.2.1 (.int .u64 0) (.int .i64 0) (.int .i64 0) (.string ⟨#[]⟩)
      have k0 := cell_of_row _ _ 0 _ _ _ hr4
      have k1 := cell_of_row _ _ 1 _ _ _ hr4
      have k2 := cell_of_row _ _ 2 _ _ _ hr4
      have k3 := cell_of_row _ _ 3 _ _ _ hr4
      exact bodyPost_ret (v := .tuple #[Gm.noMsg.val, .int .i64 90]) (by simp [results, Try.results10, go_sem, k0, k1, k2, k3, Gm.noMsg, Gm.Msg.val]) rfl ⟨_, _, .inr ⟨_, HX.out.1, HX.out.2, .inl ⟨HIC2.out, rfl, rfl⟩⟩, H2.out.1.off4 HB.out.2.2 _ _ _ _, Gm.moved4 (.of_below H2.out.2.2.2.2) (Nat.le_refl _) _ _ _ _⟩
    | false =>
      have HIC2 := Lib.hid hic
      clear hic
      go_wp2_with fail
      refine HG.out.mono ?_
      rintro e w4 ⟨rfl, v4, h4, mv4⟩
      have hB4 := (mv4.block _ (Gm.ltHeap H2.out.2.1) HB.out.2.2).trans H2.out.2.1
      have hS4 := (mv4.block _ (Gm.ltHeap H2.out.2.2.1) H2.out.2.2.2.1).trans H2.out.2.2.1
      have e0 : w4.cell? ⟨w.heap.size, 0, none⟩ = some (.int .u64 0) := cell_of_row _ _ 0 _ _ _ hB4
      have e1 : w4.cell? ⟨w.heap.size, 1, none⟩ = some (.int .i64 0) := cell_of_row _ _ 1 _ _ _ hB4
      have e2 : w4.cell? ⟨w.heap.size, 2, none⟩ = some (.int .i64 0) := cell_of_row _ _ 2 _ _ _ hB4
      have e3 : w4.cell? ⟨w.heap.size, 3, none⟩ = some (.string ⟨#[]⟩) := cell_of_row _ _ 3 _ _ _ hB4
      have f0 := frozen_of_row _ _ 0 _ _ hB4
      have f1 := frozen_of_row _ _ 1 _ _ hB4
      have f2 := frozen_of_row _ _ 2 _ _ hB4
      have f3 := frozen_of_row _ _ 3 _ _ hB4
      have t0 : w4.cell? ⟨W.heap.size, 0, none⟩ = some (.int .u64 xi) := cell_of_row _ _ 0 _ _ _ hS4
      have t1 : w4.cell? ⟨W.heap.size, 1, none⟩ = some (.int .i64 xf) := cell_of_row _ _ 1 _ _ _ hS4
      have t2 : w4.cell? ⟨W.heap.size, 2, none⟩ = some (.int .i64 xt) := cell_of_row _ _ 2 _ _ _ hS4
      have t3 : w4.cell? ⟨W.heap.size, 3, none⟩ = some (.string xs) := cell_of_row _ _ 3 _ _ _ hS4
      rw [HDR.out] at h4
      have H4 := Lib.hid (And.intro h4 (And.intro mv4 hB4))
      clear h4 mv4 hB4 hS4 s1 s2
      go_wp2_with fail
      have hr4 := Gm.cells4 H4.out.2.2 (.int .u64 xi) (.int .i64 xf) (.int .i64 xt) (.string xs)
      have k0 := cell_of_row _ _ 0 _ _ _ hr4
      have k1 := cell_of_row _ _ 1 _ _ _ hr4
      have k2 := cell_of_row _ _ 2 _ _ _ hr4
      have k3 := cell_of_row _ _ 3 _ _ _ hr4
      exact bodyPost_ret (v := .tuple #[Gm.Msg.val ⟨xi, xf, xt, xs⟩, .int .i64 0]) (by simp [results, Try.results10, go_sem, k0, k1, k2, k3, Gm.Msg.val]) rfl ⟨v4, _, .inr ⟨_, HX.out.1, HX.out.2, .inr ⟨HIC2.out, rfl, rfl⟩⟩, H4.out.1.off4 (H4.out.2.1.keep _ (Gm.ltHeap H2.out.2.1) HB.out.2.2) _ _ _ _, Gm.moved4 ((Gm.Mvg.of_below H2.out.2.2.2.2).trans H4.out.2.1) (Nat.le_refl _) _ _ _ _⟩
end Go.Proofs.Ytfhengihdlojmaa
