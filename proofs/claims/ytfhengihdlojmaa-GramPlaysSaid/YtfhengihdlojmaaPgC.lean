/-
  The program's net: told, stopped, put.
-/
import Derived.Test.YtfhengihdlojmaaPgB
namespace Go.Proofs.Ytfhengihdlojmaa
open Go.RowKit

namespace Gm
theorem findM_none {id : Int} {l : List Msg} (h : ∀ y ∈ l, y.id ≠ id) : findM id l = none := by
  unfold findM
  rw [List.find?_eq_none]
  intro x hx
  simpa using h x hx
theorem findM_some {l : List Msg} (hd : DistM l) {x : Msg} (hx : x ∈ l) : findM x.id l = some x := by
  unfold findM
  induction l with
  | nil => cases hx
  | cons y l ih =>
    have hp := List.pairwise_cons.1 hd
    rcases List.mem_cons.1 hx with rfl | hx
    · rw [List.find?_cons_of_pos (by simp)]
    · rw [List.find?_cons_of_neg (by simpa using hp.1 x hx)]
      exact ih hp.2 hx
theorem findM_iff {l : List Msg} (hd : DistM l) {id : Int} {x : Msg} : findM id l = some x ↔ x ∈ l ∧ x.id = id := by
  constructor
  · intro h
    exact ⟨List.mem_of_find?_eq_some h, by simpa using List.find?_some h⟩
  · rintro ⟨h, rfl⟩
    exact findM_some hd h
theorem onF_id (l : List Msg) (a : Int) : onF l (.int .u64 a) = (findM a l).map Msg.val := rfl
theorem onF_put {l : List Msg} {x : Msg} (hf : ∀ y ∈ l, y.id ≠ x.id) : onF (l ++ [x]) (.int .u64 x.id) = some x.val ∧ ∀ v, v ≠ .int .u64 x.id → onF (l ++ [x]) v = onF l v := by
  constructor
  · rw [onF_id]
    unfold findM
    rw [List.find?_append, show l.find? (fun y => decide (y.id = x.id)) = none from findM_none hf]
    simp
  · intro v hv
    unfold onF
    split
    · rename_i a
      have hne : x.id ≠ a := fun e => hv (by rw [e])
      unfold findM
      rw [List.find?_append]
      simp [hne]
    · rfl
theorem onF_drop (l : List Msg) (id : Int) : onF (dropM id l) (.int .u64 id) = none ∧ ∀ v, v ≠ .int .u64 id → onF (dropM id l) v = onF l v := by
  constructor
  · rw [onF_id, findM_none (fun y hy => (dropM_mem.1 hy).2)]
    rfl
  · intro v hv
    unfold onF
    split
    · rename_i a
      have hne : id ≠ a := fun e => hv (by rw [e])
      unfold findM dropM
      rw [List.find?_filter]
      congr 2
      funext y
      by_cases h : y.id = a
      · simp [h, Ne.symm hne]
      · simp [h]
    · rfl
theorem onF_has (l : List Msg) (id : Int) : (onF l (.int .u64 id)).isSome = hasM id l := by
  rw [onF_id]
  unfold findM hasM
  rw [Option.isSome_map, Bool.eq_iff_iff, List.find?_isSome, List.any_eq_true]
/-- The zero message. -/
theorem zeroMsg : ∀ w, (zeroValue 41).run Try.prog w = .ok noMsg.val w := fun _ => by kernel_rfl
theorem zeroUnit : ∀ w, (zeroValue 67).run Try.prog w = .ok (.agg #[]) w := fun _ => by kernel_rfl
end Gm

set_option maxRecDepth 20000 in
set_option maxHeartbeats 1000000 in
/-- A message is told with a text of its own. -/
theorem gtold (x : Gm.Msg) (w : World) (hx : x.text.size ≤ 281474976710656) :
    Calls Try.prog 30 #[x.val] w fun e w' => e = .returned x.val ∧ Below w.heap.size w w' := by
  obtain ⟨xi, xf, xt, xs⟩ := x
  have HC : Hid (∀ w, Calls Try.prog 26 #[.string xs] w fun e w' => e = .returned (.string xs) ∧ Below w.heap.size w w') := fun w => gclone xs w hx
  clear hx
  unfold Gm.Msg.val
  obtain ⟨W, hW⟩ : ∃ W, W = (w.alloc (.cells #[.int .u64 xi, .int .i64 xf, .int .i64 xt, .string xs] 41)).alloc (.cells #[.int .u64 0, .int .i64 0, .int .i64 0, .string ⟨#[]⟩] 41) := ⟨_, rfl⟩
  have s1 : (w.alloc (.cells #[.int .u64 xi, .int .i64 xf, .int .i64 xt, .string xs] 41)).heap.size = w.heap.size + 1 := by simp
  have hb : Below w.heap.size w W := by rw [hW]; exact ((Below.refl _ _).alloc (Nat.le_refl _) _).alloc (by simp) _
  have r2 : W.heap[w.heap.size + 1]? = some (.cells #[.int .u64 0, .int .i64 0, .int .i64 0, .string ⟨#[]⟩] 41 (0, 0)) := by rw [hW, ← s1]; exact heap_alloc_new _ _
  have r1 : W.heap[w.heap.size]? = some (.cells #[.int .u64 xi, .int .i64 xf, .int .i64 xt, .string xs] 41 (0, 0)) := by rw [hW, Below.heap_alloc _ _ _ (by rw [s1]; omega)]; exact heap_alloc_new w _
  have H := Lib.hid (And.intro hb (And.intro r1 r2))
  have k3 : W.cell? ⟨w.heap.size, 3, none⟩ = some (.string xs) := cell_of_row _ _ 3 _ _ _ r1
  clear hb r1 r2
  go_enter Try.func30, Try.ntmps30
  go_wp2_with fail
  rw [← hW]
  clear hW
  refine (HC.out _).mono ?_
  rintro e w1 ⟨rfl, hb1⟩
  have q1 := (hb1.block _ (Gm.ltHeap H.out.2.1)).trans H.out.2.1
  have q2 := (hb1.block _ (Gm.ltHeap H.out.2.2)).trans H.out.2.2
  have g3 : w1.cell? ⟨w.heap.size, 3, none⟩ = some (.string xs) := cell_of_row _ _ 3 _ _ _ q1
  have fr3 := frozen_of_row _ _ 3 _ _ q1
  have q1' : (w1.setCell ⟨w.heap.size, 3, none⟩ (.string xs)).heap[w.heap.size]? = some (.cells #[.int .u64 xi, .int .i64 xf, .int .i64 xt, .string xs] 41 (0, 0)) := by rw [heap_setCell_same _ _ _ _ _ _ q1]; rfl
  have q2' : (w1.setCell ⟨w.heap.size, 3, none⟩ (.string xs)).heap[w.heap.size + 1]? = some (.cells #[.int .u64 0, .int .i64 0, .int .i64 0, .string ⟨#[]⟩] 41 (0, 0)) := by rw [Below.heap_setCell _ _ _ _ (show w.heap.size + 1 ≠ w.heap.size by omega)]; exact q2
  have hbb : Below w.heap.size w (w1.setCell ⟨w.heap.size, 3, none⟩ (.string xs)) := (H.out.1.trans (hb1.mono H.out.1.size)).setCell (Nat.le_refl _) _
  obtain ⟨W2, hW2⟩ : ∃ W2, W2 = w1.setCell ⟨w.heap.size, 3, none⟩ (.string xs) := ⟨_, rfl⟩
  rw [← hW2] at q1' q2' hbb
  have HQ := Lib.hid (And.intro q2' hbb)
  have HT : Hid (Below w.heap.size w ((((W2.setCell ⟨w.heap.size + 1, 0, none⟩ (.int .u64 xi)).setCell ⟨w.heap.size + 1, 1, none⟩ (.int .i64 xf)).setCell ⟨w.heap.size + 1, 2, none⟩ (.int .i64 xt)).setCell ⟨w.heap.size + 1, 3, none⟩ (.string xs))) :=
    (((hbb.setCell (Nat.le_succ _) _).setCell (Nat.le_succ _) _).setCell (Nat.le_succ _) _).setCell (Nat.le_succ _) _
  have a0 : w1.cell? ⟨w.heap.size, 0, none⟩ = some (.int .u64 xi) := cell_of_row _ _ 0 _ _ _ q1
  have a1 : w1.cell? ⟨w.heap.size, 1, none⟩ = some (.int .i64 xf) := cell_of_row _ _ 1 _ _ _ q1
  have a2 : w1.cell? ⟨w.heap.size, 2, none⟩ = some (.int .i64 xt) := cell_of_row _ _ 2 _ _ _ q1
  have b0 : w1.cell? ⟨w.heap.size + 1, 0, none⟩ = some (.int .u64 0) := cell_of_row _ _ 0 _ _ _ q2
  have b1 : w1.cell? ⟨w.heap.size + 1, 1, none⟩ = some (.int .i64 0) := cell_of_row _ _ 1 _ _ _ q2
  have b2 : w1.cell? ⟨w.heap.size + 1, 2, none⟩ = some (.int .i64 0) := cell_of_row _ _ 2 _ _ _ q2
  have b3 : w1.cell? ⟨w.heap.size + 1, 3, none⟩ = some (.string ⟨#[]⟩) := cell_of_row _ _ 3 _ _ _ q2
  have f0 := frozen_of_row _ _ 0 _ _ q2
  have f1 := frozen_of_row _ _ 1 _ _ q2
  have f2 := frozen_of_row _ _ 2 _ _ q2
  have f3 := frozen_of_row _ _ 3 _ _ q2
  clear q1 q2 q1' q2' hbb hb1 k3
  go_wp2_with fail
  rw [← hW2]
  clear hW2
  have hr4 := Gm.cells4 HQ.out.1 (.int .u64 xi) (.int .i64 xf) (.int .i64 xt) (.string xs)
  have k0 := cell_of_row _ _ 0 _ _ _ hr4
  have k1 := cell_of_row _ _ 1 _ _ _ hr4
  have k2 := cell_of_row _ _ 2 _ _ _ hr4
  have k3 := cell_of_row _ _ 3 _ _ _ hr4
  exact bodyPost_ret (v := .agg #[.int .u64 xi, .int .i64 xf, .int .i64 xt, .string xs]) (by simp [results, Try.results30, go_sem, k0, k1, k2, k3]) rfl ⟨rfl, HT.out⟩

set_option maxRecDepth 20000 in
set_option maxHeartbeats 2000000 in
/-- Whether a message's way is cut. -/
theorem gstopped {R B C : Nat} {last : Int} {l : List Gm.Msg} {cs : List Gm.Wy} {w : World} (h : Gm.PNet R B C last l cs w) (x : Gm.Msg) (h1 : (Lit.int .i64 x.fr).wf = true) (h2 : (Lit.int .i64 x.to).wf = true) :
    Calls Try.prog 29 #[.pointer (some ⟨R, 0, none⟩), x.val] w fun e w' => e = .returned (.bool (Gm.isCut x.fr x.to cs)) ∧ Below w.heap.size w w' := by
  obtain ⟨xi, xf, xt, xs⟩ := x
  unfold Gm.Msg.val
  obtain ⟨W, hW⟩ : ∃ W, W = w.alloc (.cells #[.int .u64 xi, .int .i64 xf, .int .i64 xt, .string xs] 41) := ⟨_, rfl⟩
  have hb : Below w.heap.size w W := by rw [hW]; exact (Below.refl _ _).alloc (Nat.le_refl _) _
  have r1 : W.heap[w.heap.size]? = some (.cells #[.int .u64 xi, .int .i64 xf, .int .i64 xt, .string xs] 41 (0, 0)) := by rw [hW]; exact heap_alloc_new w _
  have hP := h.below hb
  have c2 := hP.c2
  obtain ⟨n, hn, hm⟩ := hP.cut
  have e : Gm.cutF cs (.agg #[.int .i64 xf, .int .i64 xt]) = if Gm.isCut xf xt cs = true then some (.agg #[]) else none := rfl
  have HL : ∀ V, Below W.heap.size W V → (Instr.lookup 54 (.map (some C)) (.agg #[.int .i64 xf, .int .i64 xt]) true).run Try.prog V = .ok (.tuple #[.agg #[], .bool (Gm.isCut xf xt cs)]) V := fun V hV => by
    have := (hm.below hV).look Gm.keyWay Try.underlying54 (Gm.zeroUnit _) (Gm.isKeyWay (xf, xt) h1 h2)
    rw [show Gm.wayV (xf, xt) = .agg #[.int .i64 xf, .int .i64 xt] from rfl, e] at this
    rw [this]
    cases Gm.isCut xf xt cs <;> rfl
  have hL1 := HL W.drew (below_drewN (Below.refl _ _) 1)
  have hL2 := HL (W.alloc (.cells #[] 67)).drew (below_drewN ((Below.refl _ _).alloc (Nat.le_refl _) _) 1)
  have hal : W.heap[w.heap.size]? = some (.cells #[.int .u64 xi, .int .i64 xf, .int .i64 xt, .string xs] 41 (0, 0)) := r1
  have k1 : W.cell? ⟨w.heap.size, 1, none⟩ = some (.int .i64 xf) := cell_of_row _ _ 1 _ _ _ r1
  have k2 : W.cell? ⟨w.heap.size, 2, none⟩ = some (.int .i64 xt) := cell_of_row _ _ 2 _ _ _ r1
  have r3 := (((Below.refl W.heap.size W).alloc (Nat.le_refl _) (.cells #[] 67)).block _ (Gm.ltHeap r1)).trans r1
  have k3 : (W.alloc (.cells #[] 67)).cell? ⟨w.heap.size, 1, none⟩ = some (.int .i64 xf) := cell_of_row _ _ 1 _ _ _ r3
  have k4 : (W.alloc (.cells #[] 67)).cell? ⟨w.heap.size, 2, none⟩ = some (.int .i64 xt) := cell_of_row _ _ 2 _ _ _ r3
  have k5 := (hP.below ((Below.refl W.heap.size W).alloc (Nat.le_refl _) (.cells #[] 67))).c2
  have HB : Hid (Below w.heap.size w (W.alloc (.cells #[] 67)).drew) := below_drewN (hb.alloc hb.size _) 1
  clear hP hn hm h HL hb r1 hal r3
  go_enter Try.func29, Try.ntmps29
  go_wp2_with fail
  rw [← hW]
  clear hW
  go_region
  all_goals (go_wp2_with fail; go_ret; exact ⟨rfl, HB.out⟩)

namespace Gm
section
variable {R B C : Nat} {last : Int} {l : List Msg} {cs : List Wy} {w w' : World}
/-- The map of messages turned. -/
theorem PNet.stepB (h : PNet R B C last l cs w) {l' : List Msg} (hm : MapF 28 w' B (onF l') l'.length) (hg : w.grownBy w' (some B)) : PNet R B C last l' cs w' ∧ Mvg (POff R B C) (POff R B C) w w' := by
  obtain ⟨n, hn, hc⟩ := h.cut
  refine ⟨⟨?_, hm, ⟨n, hn, hc.of_block (hg.block _ hc.lt fun e => h.BC (Option.some.inj e).symm)⟩, h.BC, h.nd⟩, ⟨hg.os, hg.tape, hg.output, hg.size, fun i hi ho => hg.block i hi (fun e => ho.2.1 (Option.some.inj e)), fun _ _ h => h⟩⟩
  rw [hg.block _ (ltHeap h.obj) (fun e => h.RB (Option.some.inj e))]
  exact h.obj
/-- The map of ways turned. -/
theorem PNet.stepC (h : PNet R B C last l cs w) {cs' : List Wy} {n : Nat} (hn : n = cs'.length) (hnd : cs'.Nodup) (hm : MapF 69 w' C (cutF cs') n) (hg : w.grownBy w' (some C)) : PNet R B C last l cs' w' ∧ Mvg (POff R B C) (POff R B C) w w' := by
  refine ⟨⟨?_, h.on.of_block (hg.block _ h.on.lt fun e => h.BC (Option.some.inj e)), ⟨n, hn, hm⟩, h.BC, hnd⟩, ⟨hg.os, hg.tape, hg.output, hg.size, fun i hi ho => hg.block i hi (fun e => ho.2.2 (Option.some.inj e)), fun _ _ h => h⟩⟩
  rw [hg.block _ (ltHeap h.obj) (fun e => h.RC (Option.some.inj e))]
  exact h.obj
end
end Gm

set_option maxRecDepth 20000 in
set_option maxHeartbeats 2000000 in
theorem gput {R B C : Nat} {last : Int} {l : List Gm.Msg} {cs : List Gm.Wy} {w : World} (h : Gm.PNet R B C last l cs w) (hl : l.length ≤ 100000) (l0 : 0 ≤ last) (l1 : last ≤ 1000000) (hf : ∀ y ∈ l, y.id ≠ last + 1) (x : Gm.Msg) :
    Calls Try.prog 27 #[.pointer (some ⟨R, 0, none⟩), x.val] w fun e w' => e = .returned (.int .u64 (last + 1)) ∧ Gm.PNet R B C (last + 1) (l ++ [⟨last + 1, x.fr, x.to, x.text⟩]) cs w' ∧ Gm.Mvg (Gm.POff R B C) (Gm.POff R B C) w w' := by
  obtain ⟨xi, xf, xt, xs⟩ := x
  unfold Gm.Msg.val
  simp only
  have hwr : IntKind.u64.wrap (last + 1) = last + 1 := by rw [IntKind.wrap_u64]; omega
  have hRl := Gm.ltHeap h.obj
  obtain ⟨V, hV⟩ : ∃ V, V = w.setCell ⟨R, 0, none⟩ (.int .u64 (last + 1)) := ⟨_, rfl⟩
  have hVs : V.heap.size = w.heap.size := by rw [hV]; simp [World.setCell]
  have hVk : ∀ i, i ≠ R → V.heap[i]? = w.heap[i]? := fun i hi => by rw [hV, Below.heap_setCell _ _ _ _ hi]
  have oV : V.heap[R]? = some (.cells #[.int .u64 (last + 1), .map (some B), .map (some C)] 56 (0, 0)) := by rw [hV, heap_setCell_same _ _ _ _ _ _ h.obj]; rfl
  obtain ⟨W, hW⟩ : ∃ W, W = V.alloc (.cells #[.int .u64 (last + 1), .int .i64 xf, .int .i64 xt, .string xs] 41) := ⟨_, rfl⟩
  have hk : ∀ i, i < w.heap.size → W.heap[i]? = V.heap[i]? := fun i h2 => by
    rw [hW, Below.heap_alloc _ _ _ (by omega)]
  have oR : W.heap[R]? = some (.cells #[.int .u64 (last + 1), .map (some B), .map (some C)] 56 (0, 0)) := (hk R hRl).trans oV
  have oX : W.heap[w.heap.size]? = some (.cells #[.int .u64 (last + 1), .int .i64 xf, .int .i64 xt, .string xs] 41 (0, 0)) := by
    rw [hW, ← hVs]; exact heap_alloc_new V _
  obtain ⟨n, hn, hc⟩ := h.cut
  have hBl := h.on.lt
  have hCl : C < w.heap.size := hc.lt
  have hP : Gm.PNet R B C (last + 1) l cs W := ⟨oR, h.on.of_block ((hk B hBl).trans (hVk B h.RB.symm)), ⟨n, hn, hc.of_block ((hk C hCl).trans (hVk C h.RC.symm))⟩, h.BC, h.nd⟩
  have hM : Gm.Mvg (Gm.POff R B C) (Gm.POff R B C) w W :=
    ⟨by rw [hW, hV]; rfl, by rw [hW, hV]; rfl, by rw [hW, hV]; rfl, by rw [hW]; simp; omega, fun i hi ho => (hk i hi).trans (hVk i ho.1), fun _ _ h => h⟩
  obtain ⟨W2, hr2, hm2, hg2⟩ := (hP.below (below_drewN (Below.refl _ _) 1)).on.put Gm.key64 Try.underlying53 (by unfold maxLen; omega) (Gm.isKey64 (a := last + 1) (by omega) (by omega))
    (Gm.Msg.val ⟨last + 1, xf, xt, xs⟩) (Gm.onF (l ++ [⟨last + 1, xf, xt, xs⟩])) (Gm.onF_put (x := ⟨last + 1, xf, xt, xs⟩) hf).1 (Gm.onF_put (x := ⟨last + 1, xf, xt, xs⟩) hf).2
  have hno : (Gm.onF l (.int .u64 (last + 1))).isSome = false := by
    rw [Gm.onF_id, Gm.findM_none hf]; rfl
  rw [hno] at hm2
  have hm2' : Gm.MapF 28 W2 B (Gm.onF (l ++ [⟨last + 1, xf, xt, xs⟩])) (l ++ [(⟨last + 1, xf, xt, xs⟩ : Gm.Msg)]).length := by rw [List.length_append]; exact hm2
  have h3 := (hP.below (below_drewN (Below.refl _ _) 1)).stepB hm2' hg2
  have HE : Hid (Gm.PNet R B C (last + 1) (l ++ [⟨last + 1, xf, xt, xs⟩]) cs W2 ∧ Gm.Mvg (Gm.POff R B C) (Gm.POff R B C) w W2) := ⟨h3.1, hM.trans ((Gm.Mvg.of_below (below_drewN (Below.refl _ _) 1)).trans h3.2)⟩
  have x2 : W2.heap[w.heap.size]? = some (.cells #[.int .u64 (last + 1), .int .i64 xf, .int .i64 xt, .string xs] 41 (0, 0)) := by
    rw [hg2.block w.heap.size (Gm.ltHeap oX) (fun e => by have := Option.some.inj e; omega)]
    exact oX
  have y0 : W2.cell? ⟨w.heap.size, 0, none⟩ = some (.int .u64 (last + 1)) := cell_of_row _ _ 0 _ _ _ x2
  have HR := Lib.hid hr2
  have c0 := h.c0
  have fc0 := frozen_of_row _ _ 0 _ _ h.obj
  have k1 : W.cell? ⟨R, 1, none⟩ = some (.map (some B)) := hP.c1
  have x0 : W.cell? ⟨w.heap.size, 0, none⟩ = some (.int .u64 (last + 1)) := cell_of_row _ _ 0 _ _ _ oX
  have x1 : W.cell? ⟨w.heap.size, 1, none⟩ = some (.int .i64 xf) := cell_of_row _ _ 1 _ _ _ oX
  have x3 : W.cell? ⟨w.heap.size, 2, none⟩ = some (.int .i64 xt) := cell_of_row _ _ 2 _ _ _ oX
  have x4 : W.cell? ⟨w.heap.size, 3, none⟩ = some (.string xs) := cell_of_row _ _ 3 _ _ _ oX
  have hne : w.heap.size ≠ R := by omega
  rw [hV] at hW
  clear hr2 hm2 hg2 hm2' h3 hno hM hP hc hk oR oX oV hVk hVs hV h hf hl x2
  go_enter Try.func27, Try.ntmps27
  go_wp2_with fail
  rw [← hW]
  clear hW c0 fc0
  go_still_tail 7, (by kernel_rfl)
  go_wp2_with (at_mapUpdate; refine Gm.gpl_upd _ rfl _ _ _ _ rfl _ _ _ rfl rfl rfl W2 HR.out ?_)
  go_ret
  exact ⟨rfl, HE.out⟩
end Go.Proofs.Ytfhengihdlojmaa
