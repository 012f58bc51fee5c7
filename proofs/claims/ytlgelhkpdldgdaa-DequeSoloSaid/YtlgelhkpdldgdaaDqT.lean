/-
  Layer 16: the program's pushes: grow.
-/
import Derived.Test.YtlgelhkpdldgdaaDqG
namespace Go.Proofs.Ytlgelhkpdldgdaa
open Go.RowKit
set_option linter.unusedVariables false
set_option linter.unusedSimpArgs false

namespace Dq
theorem moX_room {xs : List Int} {n : Int} (hn : 1 ≤ n) : (∀ ys : List Int, ys = (2 * n) :: List.replicate (2 * n).toNat 0 → Ce.moR xs ys = room xs n) := fun ys e => by
  subst e
  unfold Ce.moR room
  congr 1
  rw [List.length_cons, List.length_replicate, eq_iff_iff]
  omega
theorem lies_set (w : World) (x : Int) (m : Nat) (T : TypeId) : Lies (w.alloc (.cells ((madeCells #[.int .i64 0] (m + 1)).setIfInBounds 0 (.int .i64 x)) T)) (w.alloc (.cells ((madeCells #[.int .i64 0] (m + 1)).setIfInBounds 0 (.int .i64 x)) T)).heap.size (some ⟨w.heap.size, 0, none⟩) (icells (x :: List.replicate m 0)) := fun _ => by
  refine ⟨_, rfl, by simp, fun j u hu => ?_⟩
  have e : (⟨w.heap.size, 0, none⟩ : Addr).add j = ⟨w.heap.size, j, none⟩ := Ce.off_add _ _
  rw [e, cell_of_row _ _ j _ _ _ (heap_alloc_new w _), ← hu, Array.getElem?_setIfInBounds]
  cases j with
  | zero =>
    rw [if_pos rfl]
    have hs : 0 < (madeCells #[Value.int .i64 0] (m + 1)).size := by
      rw [← Array.length_toList, toList_madeCells_one]
      simp
    rw [if_pos hs]
    simp [icells]
  | succ j =>
    rw [if_neg (by omega), ← Array.getElem?_toList, toList_madeCells_one, List.replicate_succ, List.getElem?_cons_succ]
    simp [icells]
end Dq
section
variable {K : Nat → Prop} {B M R : Nat} {F : Int} {own : Value} {P : Nat} {xs : List Int} {n : Nat} {w : World} {a : Dq.A} {nx : Value}
set_option maxHeartbeats 2000000 in
set_option maxRecDepth 20000 in
theorem s_push10 (h : Dq.Atc K B M R F own P 96 (Dq.pC R a nx) xs n w) (hb : Dq.Bd F xs n) (hn : 1 ≤ a.n ∧ a.n ≤ 65536) (Q : Ending → World → Prop)
    (h1 : Dq.room xs a.n = true → ∀ w', Dq.Atc K B M R F own P 96 (Dq.pC R {a with nw := xs.length, nc := 2 * a.n, i := a.t} (Dq.fv (if a.t < a.b then 89 else 88) P)) (Dq.moreX xs a.n) n w' → Ce.Kept (fun i => K i ∧ i ≠ P) w w' → Q (.returned (.int .i64 0)) w')
    (h2 : Dq.room xs a.n = false → ∀ w', Dq.Atc K B M R F own P 96 (Dq.pC R a nx) xs n w' → Ce.Kept (fun i => K i ∧ i ≠ P) w w' → Q (.returned (.int .i64 6)) w') : Calls Try.prog 75 #[.pointer (some ⟨P, 0, none⟩)] w Q := by
  have HQ1 := Lib.hid h1
  have HQ2 := Lib.hid h2
  clear h1 h2
  obtain ⟨m, hm⟩ : ∃ m : Nat, a.n = (m : Int) := ⟨a.n.toNat, by omega⟩
  obtain ⟨k, hk⟩ : ∃ k : Nat, k = 2 * m + 1 := ⟨_, rfl⟩
  have c1 : w.cell? ⟨P, 1, none⟩ = some (.int .i64 (m : Int)) := by rw [← hm]; exact h.cell 1 rfl
  have c2 : w.cell? ⟨P, 2, none⟩ = some (.pointer (some ⟨R, 0, none⟩)) := h.cell 2 rfl
  have r0 := h.dv.cell 0 rfl
  have hw1 : IntKind.i64.wrap (2 * (m : Int)) = 2 * (m : Int) := by rw [IntKind.wrap_i64]; omega
  have hw2 : IntKind.i64.wrap (1 + 2 * (m : Int)) = (k : Int) := by rw [IntKind.wrap_i64]; omega
  have hmk : ∀ W : World, (Instr.makeSlice 27 (.int .i64 (k : Int)) (.int .i64 (k : Int))).run Try.prog W = .ok (.slice (some ⟨W.heap.size, 0, none⟩) k k) (W.alloc (.cells (madeCells #[.int .i64 0] k) 2)) := fun W => by
    obtain ⟨i, hi, hz⟩ := Option.map_eq_some_iff.1 Ce.i64Info
    simp only [Prod.mk.injEq] at hz
    obtain ⟨z1, z2, z3⟩ := hz
    have := run_makeSlice (P := Try.prog) W 27 2 i _ Try.underlying27 hi z1 .i64 .i64 (k : Int) (k : Int) (by omega) (Int.le_refl _) (by rw [z2]; omega) (by rw [z3]; omega) (by omega)
    rw [this, z2]
    simp [Value.cells]
  have hx1 : ¬ (m : Int) < 0 := by omega
  have hx2 : ¬ (65536 : Int) < (m : Int) := by omega
  have hk0 : (0 : Int) < (k : Int) := by omega
  have HKM : Hid (k = 2 * m + 1 ∧ m ≤ 65536 ∧ 1 ≤ m) := by show _ ∧ _; omega
  obtain ⟨W2, hW2⟩ : ∃ W2, W2 = w.alloc (.cells ((madeCells #[.int .i64 0] k).setIfInBounds 0 (.int .i64 (2 * (m : Int)))) 2) := ⟨_, rfl⟩
  have b2 : Below w.heap.size w W2 := by rw [hW2]; exact (Below.refl _ _).alloc (Nat.le_refl _) _
  have l2 : Lies W2 W2.heap.size (some ⟨w.heap.size, 0, none⟩) (icells ((2 * (m : Int)) :: List.replicate (2 * m) 0)) := by rw [hW2, hk]; exact Dq.lies_set _ _ _ _
  have h2 := h.below b2
  have hys : ((2 * (m : Int)) :: List.replicate (2 * m) 0).length = k := by rw [List.length_cons, List.length_replicate]; omega
  have HMO := pm_more h2.dv.pm (some ⟨w.heap.size, 0, none⟩) ((2 * (m : Int)) :: List.replicate (2 * m) 0) k l2 (by rw [hys]; unfold maxLen; omega) hb.len
  rw [hys] at HMO
  have HM := Lib.hid HMO
  have hlt := h.dv.lt h.kP
  have H2 := Lib.hid h2
  have B2 := Lib.hid b2
  have HF : Hid (0 ≤ F ∧ F + 3 ≤ xs.length) := ⟨hb.F0, hb.F3⟩
  have HN := Lib.hid hm
  have c2' : W2.cell? ⟨P, 2, none⟩ = some (.pointer (some ⟨R, 0, none⟩)) := h2.cell 2 rfl
  have r0' : W2.cell? ⟨R, 0, none⟩ = some (.pointer (some ⟨B, 0, none⟩)) := h2.dv.cell 0 rfl
  rw [hW2] at c2' r0'
  have gc : (w.alloc (.cells (madeCells #[.int .i64 0] k) 2)).cell? ⟨w.heap.size, 0, none⟩ = some (.int .i64 0) := by
    rw [cell_of_row _ _ 0 _ _ _ (heap_alloc_new w _), ← Array.getElem?_toList, toList_madeCells_one, hk]
    rfl
  have gf : (w.alloc (.cells (madeCells #[.int .i64 0] k) 2)).frozen? ⟨w.heap.size, 0, none⟩ = false := frozen_of_row _ _ 0 _ _ (heap_alloc_new w _)
  clear h h2 hb hn b2 l2 HMO hys hlt hm hk c2 r0
  go_enter Try.func75, Try.ntmps75
  go_wp2_with fail
  rw [← hW2]
  clear hW2 c1 c2' r0' gc gf hmk hw1 hw2 hx1 hx2 hk0
  refine HM.out.mono ?_
  rintro e w3 ⟨he, h3, k3⟩
  have hys : (2 * a.n) :: List.replicate (2 * a.n).toNat 0 = (2 * (m : Int)) :: List.replicate (2 * m) 0 := by
    rw [HN.out, show (2 * (m : Int)).toNat = 2 * m by omega]
  have hmr := Dq.moX_room (xs := xs) (n := a.n) (by have h1 := HKM.out; have h2 := HN.out; omega) _ hys.symm
  have HKK : Hid (Ce.Kept (fun i => K i ∨ i = R) W2 w3) := k3
  have HB2 : Hid (Ce.Kept (fun i => K i ∧ i ≠ P) w W2) := Ce.Kept.of_below B2.out
  by_cases hr : Dq.room xs a.n = true
  · have HR := Lib.hid hr
    rw [hr] at hmr
    have e1 : Ce.moA xs ((2 * (m : Int)) :: List.replicate (2 * m) 0) = xs.length := by unfold Ce.moA; rw [hmr]; rfl
    have e2 : Ce.moE xs ((2 * (m : Int)) :: List.replicate (2 * m) 0) = 0 := by unfold Ce.moE; rw [hmr]; rfl
    have e3 : Ce.moX xs ((2 * (m : Int)) :: List.replicate (2 * m) 0) = Dq.moreX xs a.n := by unfold Ce.moX Dq.moreX; rw [hmr, ← hys]; rfl
    rw [e1, e2] at he
    rw [e3] at h3
    subst he
    have r3 : w3.heap[R]? = some (.cells #[.pointer (some ⟨B, 0, none⟩), .int .i64 F, .int .i64 (Dq.ld (Dq.moreX xs a.n) F), .int .i64 (Dq.ld (Dq.moreX xs a.n) (F + 1)), own] 81 (0, 0)) := by
      unfold Dq.moreX
      rw [Dq.ld_app HF.out.1 (by have := HF.out.2; omega), Dq.ld_app (by have := HF.out.1; omega) (by have := HF.out.2; omega)]
      exact k3.row H2.out.dv.row (.inr rfl)
    have hdv := H2.out.dv.next h3 k3 r3 (Ce.Kept.refl _ _)
    have h4 := H2.out.next hdv.1 hdv.2
    have K4 : Hid (Ce.Kept (fun i => K i ∧ i ≠ P) w w3) := HB2.out.trans (hdv.2.mono fun i _ h => h.1)
    have d3 : w3.cell? ⟨P, 3, none⟩ = some (.int .i64 a.t) := h4.cell 3 rfl
    have d10 : w3.cell? ⟨P, 10, none⟩ = some (.int .i64 a.nw) := h4.cell 10 rfl
    have d11 : w3.cell? ⟨P, 11, none⟩ = some (.int .i64 a.nc) := h4.cell 11 rfl
    have d12 : w3.cell? ⟨P, 12, none⟩ = some (.int .i64 a.i) := h4.cell 12 rfl
    have f10 := h4.fro 10
    have f11 := h4.fro 11
    have f12 := h4.fro 12
    have h5 : Dq.Atc K B M R F own P 96 (Dq.pC R {a with nw := xs.length, nc := 2 * (m : Int), i := a.t} nx) (Dq.moreX xs a.n) n (((w3.setCell ⟨P, 10, none⟩ (.int .i64 (xs.length : Int))).setCell ⟨P, 11, none⟩ (.int .i64 (2 * (m : Int)))).setCell ⟨P, 12, none⟩ (.int .i64 a.t)) := ((h4.set 10 (.int .i64 (xs.length : Int)) (by decide)).set 11 (.int .i64 (2 * (m : Int))) (by decide)).set 12 (.int .i64 a.t) (by decide)
    have HFU := Lib.hid (q_further h5)
    have K5 : Hid (Ce.Kept (fun i => K i ∧ i ≠ P) w (((w3.setCell ⟨P, 10, none⟩ (.int .i64 (xs.length : Int))).setCell ⟨P, 11, none⟩ (.int .i64 (2 * (m : Int)))).setCell ⟨P, 12, none⟩ (.int .i64 a.t))) := ((K4.out.trans (Ce.Kept.cell (fun h => h.2 rfl) _ _)).trans (Ce.Kept.cell (fun h => h.2 rfl) _ _)).trans (Ce.Kept.cell (fun h => h.2 rfl) _ _)
    clear h3 k3 hr r3 hdv h4 h5 e1 e2 e3 hmr hys
    go_wp2_with fail
    refine HFU.out.mono ?_
    rintro e w5 ⟨rfl, h6⟩
    go_wp2_with fail
    refine HQ1.out HR.out _ ?_ (K5.out.trans h6.out.2)
    rw [HN.out] at h6 ⊢
    exact h6.out.1
  · have hr' : Dq.room xs a.n = false := by simpa using hr
    have HR := Lib.hid hr'
    rw [hr'] at hmr
    have e1 : Ce.moA xs ((2 * (m : Int)) :: List.replicate (2 * m) 0) = 0 := by unfold Ce.moA; rw [hmr]; rfl
    have e2 : Ce.moE xs ((2 * (m : Int)) :: List.replicate (2 * m) 0) = 6 := by unfold Ce.moE; rw [hmr]; rfl
    have e3 : Ce.moX xs ((2 * (m : Int)) :: List.replicate (2 * m) 0) = xs := by unfold Ce.moX; rw [hmr]; rfl
    rw [e1, e2] at he
    rw [e3] at h3
    subst he
    have hdv := H2.out.dv.next h3 k3 (k3.row H2.out.dv.row (.inr rfl)) (Ce.Kept.refl _ _)
    have h4 := Lib.hid (H2.out.next hdv.1 hdv.2)
    have K4 : Hid (Ce.Kept (fun i => K i ∧ i ≠ P) w w3) := HB2.out.trans (hdv.2.mono fun i _ h => h.1)
    clear h3 k3 hr hr' hdv e1 e2 e3 hmr hys
    go_wp2_with fail
    exact HQ2.out HR.out _ h4.out K4.out
end
end Go.Proofs.Ytlgelhkpdldgdaa
