/-
  The program's timers: told, Next, Tick.
-/
import Derived.Test.YtnojjfpccnmbeaaTpL
namespace Go.Proofs.Ytnojjfpccnmbeaa
open Go.RowKit

set_option maxRecDepth 20000 in
set_option maxHeartbeats 2000000 in
theorem tktold (x : Tk.Tm) (hx : x.1.size ≤ 64) (w : World) :
    Calls Try.prog 33 #[Tk.tmV x] w fun e w' => e = .returned (Tk.tmV x) ∧ Below w.heap.size w w' := by
  obtain ⟨x1, x2⟩ := x
  simp only [] at hx
  unfold Tk.tmV
  simp only []
  obtain ⟨W, hW⟩ : ∃ W, W = (w.alloc (.cells #[.string x1, .int .i64 x2] 42)).alloc (.cells #[.string ⟨#[]⟩, .int .i64 0] 42) := ⟨_, rfl⟩
  have hb : Below w.heap.size w W := by rw [hW]; exact ((Below.refl _ _).alloc (Nat.le_refl _) _).alloc (by simp) _
  have b1 : W.heap[w.heap.size]? = some (.cells #[.string x1, .int .i64 x2] 42 (0, 0)) := by rw [hW]; exact heap_alloc2_old w _ _
  have b2 : W.heap[w.heap.size + 1]? = some (.cells #[.string ⟨#[]⟩, .int .i64 0] 42 (0, 0)) := by rw [hW]; exact heap_alloc2_new w _ _
  have hWs : w.heap.size + 1 < W.heap.size := by rw [hW]; simp
  have K0 : W.cell? ⟨w.heap.size, 0, none⟩ = some (.string x1) ∧ W.cell? ⟨w.heap.size, 1, none⟩ = some (.int .i64 x2) := ⟨cell_of_row _ _ 0 _ _ _ b1, cell_of_row _ _ 1 _ _ _ b1⟩
  obtain ⟨k0, k1⟩ := K0
  have HK0 := Lib.hid (And.intro k0 k1)
  have HCL : Hid (Calls Try.prog 39 #[.string x1] W.drew fun e w' => e = .returned (.string x1) ∧ ∃ w2, w' = w2 ∧ Hid (Below w.heap.size w w2) ∧ Hid (w2.heap[w.heap.size + 1]? = some (.cells #[.string ⟨#[]⟩, .int .i64 0] 42 (0, 0))) ∧ (w2.cell? ⟨w.heap.size, 0, none⟩ = some (.string x1) ∧ w2.cell? ⟨w.heap.size, 1, none⟩ = some (.int .i64 x2)) ∧
      w2.cell? ⟨w.heap.size + 1, 0, none⟩ = some (.string ⟨#[]⟩) ∧ w2.cell? ⟨w.heap.size + 1, 1, none⟩ = some (.int .i64 0) ∧ w2.frozen? ⟨w.heap.size + 1, 0, none⟩ = false ∧ w2.frozen? ⟨w.heap.size + 1, 1, none⟩ = false) := by
    refine (tclone x1 W.drew (by omega)).mono ?_
    rintro e w' ⟨he, hb2⟩
    have hb3 : Below W.heap.size W w' := (below_drewN (Below.refl _ _) 1).trans hb2
    have e1 := (hb3.block _ (by omega)).trans b1
    have e2 := (hb3.block _ (by omega)).trans b2
    exact ⟨he, w', rfl, hb.trans (hb3.mono hb.size), e2, ⟨cell_of_row _ _ 0 _ _ _ e1, cell_of_row _ _ 1 _ _ _ e1⟩, cell_of_row _ _ 0 _ _ _ e2, cell_of_row _ _ 1 _ _ _ e2, frozen_of_row _ _ 0 _ _ e2, frozen_of_row _ _ 1 _ _ e2⟩
  clear hb b1 b2 hx
  go_enter Try.func33, Try.ntmps33
  go_wp2_with fail
  rw [← hW]
  clear hW
  go_region_held3 (fun w' => w'.cell? ⟨w.heap.size, 0, none⟩ = some (.string x1) ∧ w'.cell? ⟨w.heap.size, 1, none⟩ = some (.int .i64 x2))
    (first | with_reducible exact HK0.out | with_reducible assumption | go_keep)
    (first
    | (go_at_call 39; refine HCL.out.mono ?_; rintro e w' ⟨rfl, w2, rfl, HB2, HR2, hk2, e0, e1, f0, f1⟩))
  all_goals
    simp only [Exit.then]
    go_at_K
    go_wp2_with fail
    have k := cells2b e0 e1 (.string x1) (.int .i64 x2)
    exact bodyPost_ret (v := .agg #[.string x1, .int .i64 x2]) (by simp [results, Try.results33, go_sem, k.1, k.2]) rfl ⟨rfl, (HB2.out.setCell (by simp) _).setCell (by simp) _⟩

namespace Tk
theorem PTm.first {T Q B : Nat} {v : Value} {c : Int} {x : Tm} {l : List Tm} {w : World} (h : PTm T Q B v c (x :: l) w) : First (x :: l) x :=
  ⟨List.mem_cons_self .., fun y hy => by
    obtain ⟨k, hk, rfl⟩ := List.getElem_of_mem hy
    exact h.hp.root ord (Nat.le_refl _) k hk x _ rfl (List.getElem?_eq_getElem hk)⟩
end Tk

set_option maxRecDepth 20000 in
set_option maxHeartbeats 2000000 in
theorem tknext {T Q B : Nat} {v : Value} {c : Int} {l : List Tk.Tm} {w : World} (h : Tk.PTm T Q B v c l w) :
    Calls Try.prog 19 #[.pointer (some ⟨T, 0, none⟩)] w fun e w' => (∃ o, e = .returned (Tk.nval o) ∧ Tk.Told l o) ∧ Below w.heap.size w w' := by
  obtain ⟨W, hW⟩ : ∃ W, W = w.alloc (.cells #[.string ⟨#[]⟩, .int .i64 0] 42) := ⟨_, rfl⟩
  have hb0 : Below w.heap.size w W := by rw [hW]; exact (Below.refl _ _).alloc (Nat.le_refl _) _
  have hWs : w.heap.size < W.heap.size := by rw [hW]; simp
  have hrow : W.heap[w.heap.size]? = some (.cells #[.string ⟨#[]⟩, .int .i64 0] 42 (0, 0)) := by rw [hW]; exact heap_alloc_new w _
  have h1 := h.below hb0
  have HIS : Hid (Calls Try.prog 24 #[.pointer (some ⟨T, 0, none⟩)] W fun e w' => e = .returned (.bool true) ∧ W = w') := tkis h1
  have HLEN : Hid (Calls Try.prog 26 #[.pointer (some ⟨Q, 0, none⟩)] W fun e w' => e = .returned (.int .i64 (l.length : Int)) ∧ W = w') := by
    obtain ⟨f, h2, _⟩ := h1.q.raw
    exact qlen h2
  have c1 := h1.c1
  have HB0 := Lib.hid hb0
  cases l with
  | nil =>
    have e0 := cell_of_row _ _ 0 _ _ _ hrow
    have e1 := cell_of_row _ _ 1 _ _ _ hrow
    have f0 := frozen_of_row _ _ 0 _ _ hrow
    have f1 := frozen_of_row _ _ 1 _ _ hrow
    simp only [List.getElem?_toArray, List.getElem?_cons_zero, List.getElem?_cons_succ] at e0 e1
    have hd : ((((([] : List Tk.Tm).length : Nat) : Int) == 0) : Bool) = true := by simp
    have HT : Hid (Tk.Told [] none) := by exact rfl
    clear h h1 hb0 hrow
    go_enter Try.func19, Try.ntmps19
    go_wp2_with fail
    rw [← hW]
    clear hW
    refine HIS.out.mono ?_
    rintro e w2 ⟨rfl, rfl⟩
    go_wp2_with fail
    refine HLEN.out.mono ?_
    rintro e w2 ⟨rfl, rfl⟩
    go_wp2_with fail
    have k := cells2b e0 e1 (.string ⟨#[]⟩) (.int .i64 0)
    exact bodyPost_ret (v := Tk.nval none) (by simp [results, Try.results19, go_sem, k.1, k.2, Tk.nval]) rfl ⟨⟨none, rfl, HT.out⟩, (HB0.out.setCell (by simp) _).setCell (by simp) _⟩
  | cons x l =>
    obtain ⟨f, h2, _⟩ := h1.q.raw
    obtain ⟨p, g, n, rfl, hp, hn, hpb, hpQ, hpB, q0, q1, _, _⟩ := h2.at2 (i := 0) (by simp)
    have hz : (p.add (0 * 2)) = p := by rw [hp]; rfl
    rw [hz] at q0 q1
    have q2 := h2.c0
    simp only [List.getElem_cons_zero] at q0 q1
    have HT : Hid (Tk.Told (x :: l) (some x)) := h.first
    have HTO : Hid (Calls Try.prog 33 #[.agg #[.string x.1, .int .i64 x.2]] W fun e w' => e = .returned (.agg #[.string x.1, .int .i64 x.2]) ∧ Below W.heap.size W w') := tktold x (h.keys x (by simp)) W
    have HRW := Lib.hid hrow
    obtain ⟨m, hm⟩ : ∃ m, m = (x :: l).length := ⟨_, rfl⟩
    have hm1 : (0 : Int) < (m : Int) := by rw [hm]; simp
    have hm2 : ((m : Int) == 0) = false := by rw [beq_eq_false_iff_ne]; omega
    rw [← hm] at HLEN q2
    obtain ⟨x1, x2⟩ := x
    simp only [] at q0 q1 HTO
    clear h h1 h2 hb0 hrow hz hp hm
    go_enter Try.func19, Try.ntmps19
    go_wp2_with fail
    rw [← hW]
    clear hW
    refine HIS.out.mono ?_
    rintro e w2 ⟨rfl, rfl⟩
    go_wp2_with fail
    refine HLEN.out.mono ?_
    rintro e w2 ⟨rfl, rfl⟩
    go_wp2_with fail
    refine HTO.out.mono ?_
    rintro e w3 ⟨rfl, hb3⟩
    have hrow := (hb3.block _ hWs).trans HRW.out
    have e0 := cell_of_row _ _ 0 _ _ _ hrow
    have e1 := cell_of_row _ _ 1 _ _ _ hrow
    have f0 := frozen_of_row _ _ 0 _ _ hrow
    have f1 := frozen_of_row _ _ 1 _ _ hrow
    simp only [List.getElem?_toArray, List.getElem?_cons_zero, List.getElem?_cons_succ] at e0 e1
    have HB3 : Hid (Below w.heap.size w w3) := HB0.out.trans (hb3.mono HB0.out.size)
    clear hb3 hrow q0 q1 q2 c1
    go_wp2_with fail
    have k := cells2b e0 e1 (.string x1) (.int .i64 x2)
    exact bodyPost_ret (v := Tk.nval (some (x1, x2))) (by simp [results, Try.results19, go_sem, k.1, k.2, Tk.nval]) rfl ⟨⟨some (x1, x2), rfl, HT.out⟩, (HB3.out.setCell (by simp) _).setCell (by simp) _⟩
end Go.Proofs.Ytnojjfpccnmbeaa
