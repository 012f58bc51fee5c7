/-
  The program's net: Take, Drop, Double, Cut, Heal.
-/
import Derived.Test.YtfhengihdlojmaaPgD
namespace Go.Proofs.Ytfhengihdlojmaa
open Go.RowKit

namespace Gm
theorem PNet.lookOn {R B C : Nat} {last : Int} {l : List Msg} {cs : List Wy} {w : World} (h : PNet R B C last l cs w) (id : Int) (i0 : 0 ≤ id) (i1 : id < 18446744073709551616) :
    (Instr.lookup 53 (.map (some B)) (.int .u64 id) true).run Try.prog w = .ok (.tuple #[((findM id l).getD noMsg).val, .bool (findM id l).isSome]) w := by
  rw [h.on.look key64 Try.underlying53 (zeroMsg w) (isKey64 i0 i1), onF_id]
  cases findM id l <;> rfl
theorem PNet.lookOn1 {R B C : Nat} {last : Int} {l : List Msg} {cs : List Wy} {w : World} (h : PNet R B C last l cs w) (id : Int) (i0 : 0 ≤ id) (i1 : id < 18446744073709551616) :
    (Instr.lookup 53 (.map (some B)) (.int .u64 id) false).run Try.prog w = .ok ((findM id l).getD noMsg).val w := by
  rw [h.on.look1 key64 Try.underlying53 (zeroMsg w) (isKey64 i0 i1), onF_id]
  cases findM id l <;> rfl
theorem dropM_count {l : List Msg} (hd : DistM l) (id : Int) : (dropM id l).length = if hasM id l then l.length - 1 else l.length := by
  by_cases h : hasM id l = true
  · rw [if_pos h]
    obtain ⟨x, hx, e⟩ := hasM_iff.1 h
    obtain ⟨i, hi, rfl⟩ := List.getElem_of_mem hx
    rw [← dropM_at hd i hi e, List.length_eraseIdx_of_lt hi]
  · rw [if_neg h, dropM_none]
    intro x hx e
    exact h (hasM_iff.2 ⟨x, hx, e⟩)
/-- delete(n.on, id). -/
theorem PNet.delOn {R B C : Nat} {last : Int} {l : List Msg} {cs : List Wy} {w : World} (h : PNet R B C last l cs w) (hd : DistM l) (id : Int) (i0 : 0 ≤ id) (i1 : id < 18446744073709551616) (ty : TypeId) :
    ∃ w', (Builtin.delete_ #[53, 28] ty #[.map (some B), .int .u64 id]).run Try.prog w = .ok (.tuple #[]) w' ∧ PNet R B C last (dropM id l) cs w' ∧ Mvg (POff R B C) (POff R B C) w w' := by
  obtain ⟨w', hr, hm, hg⟩ := h.on.del key64 Try.underlying53 (isKey64 i0 i1) (onF (dropM id l)) (onF_drop l id).1 (onF_drop l id).2 ty
  rw [onF_has, ← dropM_count hd] at hm
  exact ⟨w', hr, h.stepB hm hg⟩
theorem findM_has (id : Int) (l : List Msg) : (findM id l).isSome = hasM id l := by
  rw [← onF_has, onF_id, Option.isSome_map]
theorem PNet.off4 {R B C : Nat} {last : Int} {l : List Msg} {cs : List Wy} {w : World} (h : PNet R B C last l cs w) {X : Nat} (hX : POff R B C X) (x0 x1 x2 x3 : Value) :
    PNet R B C last l cs ((((w.setCell ⟨X, 0, none⟩ x0).setCell ⟨X, 1, none⟩ x1).setCell ⟨X, 2, none⟩ x2).setCell ⟨X, 3, none⟩ x3) := by
  refine h.keep fun i _ hn => ?_
  have hi : i ≠ X := fun e => hn (e ▸ hX)
  rw [Below.heap_setCell _ _ _ _ hi, Below.heap_setCell _ _ _ _ hi, Below.heap_setCell _ _ _ _ hi, Below.heap_setCell _ _ _ _ hi]
/-- The ids of a net: all others, from 1 to last. -/
def Good (last : Int) (l : List Msg) : Prop := DistM l ∧ (∀ x ∈ l, 1 ≤ x.id ∧ x.id ≤ last) ∧ ∀ x ∈ l, plc x.fr = true ∧ plc x.to = true ∧ x.text.size ≤ 16384
theorem plc_wf {a : Int} (h : plc a = true) : (Lit.int .i64 a).wf = true := by
  unfold plc at h
  have h1 : 0 ≤ a ∧ a < 1024 := by simpa using h
  exact WalkArith.wf_i64 (by omega)
/-- The same answer as the document's Take, from the search. -/
def takeE (id : Int) (cs : List Wy) (l : List Msg) : Ending :=
  match findM id l with
  | none => .returned (.tuple #[noMsg.val, .int .i64 5])
  | some x => if isCut x.fr x.to cs = true then .returned (.tuple #[noMsg.val, .int .i64 90]) else .returned (.tuple #[x.val, .int .i64 0])
def takeL (id : Int) (cs : List Wy) (l : List Msg) : List Msg :=
  match findM id l with
  | none => l
  | some x => if isCut x.fr x.to cs = true then l else dropM id l
end Gm

set_option maxRecDepth 20000 in
set_option maxHeartbeats 4000000 in
theorem gtake {R B C : Nat} {last : Int} {l : List Gm.Msg} {cs : List Gm.Wy} {w : World} (h : Gm.PNet R B C last l cs w) (hg : Gm.Good last l) (id : Int) (i0 : 0 ≤ id) (i1 : id < 18446744073709551616) :
    Calls Try.prog 9 #[.pointer (some ⟨R, 0, none⟩), .int .u64 id] w fun e w' =>
      e = Gm.takeE id cs l ∧ Gm.PNet R B C last (Gm.takeL id cs l) cs w' ∧ Gm.Mvg (Gm.POff R B C) (Gm.POff R B C) w w' := by
  obtain ⟨W, hW⟩ : ∃ W, W = w.alloc (.cells #[.int .u64 0, .int .i64 0, .int .i64 0, .string ⟨#[]⟩] 41) := ⟨_, rfl⟩
  have hb : Below w.heap.size w W := by rw [hW]; exact (Below.refl _ _).alloc (Nat.le_refl _) _
  have hr0 : W.heap[w.heap.size]? = some (.cells #[.int .u64 0, .int .i64 0, .int .i64 0, .string ⟨#[]⟩] 41 (0, 0)) := by rw [hW]; exact heap_alloc_new w _
  have h1 := h.below hb
  have hWs : W.heap.size = w.heap.size + 1 := by rw [hW]; simp
  have HIS := Lib.hid (gis h1)
  have HL := Lib.hid (h1.lookOn id i0 i1)
  have H := Lib.hid h1
  have HB := Lib.hid (And.intro hb hr0)
  have HG := Lib.hid hg
  have c1 := h1.c1
  have hoff := h.fresh (Nat.le_refl w.heap.size)
  have HOF := Lib.hid hoff
  cases hf : Gm.findM id l with
  | none =>
    have HE : Hid (Gm.takeE id cs l = .returned (.tuple #[Gm.noMsg.val, .int .i64 5]) ∧ Gm.takeL id cs l = l) := by
      unfold Gm.takeE Gm.takeL
      rw [hf]
      exact ⟨rfl, rfl⟩
    rw [hf] at HL
    have e0 : W.cell? ⟨w.heap.size, 0, none⟩ = some (.int .u64 0) := cell_of_row _ _ 0 _ _ _ hr0
    have e1 : W.cell? ⟨w.heap.size, 1, none⟩ = some (.int .i64 0) := cell_of_row _ _ 1 _ _ _ hr0
    have e2 : W.cell? ⟨w.heap.size, 2, none⟩ = some (.int .i64 0) := cell_of_row _ _ 2 _ _ _ hr0
    have e3 : W.cell? ⟨w.heap.size, 3, none⟩ = some (.string ⟨#[]⟩) := cell_of_row _ _ 3 _ _ _ hr0
    have f0 := frozen_of_row _ _ 0 _ _ hr0
    have f1 := frozen_of_row _ _ 1 _ _ hr0
    have f2 := frozen_of_row _ _ 2 _ _ hr0
    have f3 := frozen_of_row _ _ 3 _ _ hr0
    have HLx : Hid ((Instr.lookup 53 (.map (some B)) (.int .u64 id) true).run Try.prog W = .ok (.tuple #[.agg #[.int .u64 0, .int .i64 0, .int .i64 0, .string ⟨#[]⟩], .bool false]) W) := HL.out
    clear h hg hb hr0 h1 hoff hf HL HG
    go_enter Try.func9, Try.ntmps9
    go_wp2_with fail
    rw [← hW]
    clear hW
    refine HIS.out.mono ?_
    rintro e w2 ⟨rfl, rfl⟩
    go_wp2_with (at_lookup; refine Gm.gpl_look _ rfl _ _ _ _ rfl _ _ _ rfl rfl HLx.out ?_)
    have hr4 := Gm.cells4 HB.out.2 (.int .u64 0) (.int .i64 0) (.int .i64 0) (.string ⟨#[]⟩)
    have hr5 := (((Below.refl _ _).alloc (Nat.le_refl _) (.cells #[.int .u64 0, .int .i64 0, .int .i64 0, .string ⟨#[]⟩] 41) : Below _ _ _).block _ (Gm.ltHeap hr4)).trans hr4
    have k0 := cell_of_row _ _ 0 _ _ _ hr5
    have k1 := cell_of_row _ _ 1 _ _ _ hr5
    have k2 := cell_of_row _ _ 2 _ _ _ hr5
    have k3 := cell_of_row _ _ 3 _ _ _ hr5
    have hbf : Below ((((W.setCell ⟨w.heap.size, 0, none⟩ (.int .u64 0)).setCell ⟨w.heap.size, 1, none⟩ (.int .i64 0)).setCell ⟨w.heap.size, 2, none⟩ (.int .i64 0)).setCell ⟨w.heap.size, 3, none⟩ (.string ⟨#[]⟩)).heap.size _ _ := (Below.refl _ _).alloc (Nat.le_refl _) (.cells #[.int .u64 0, .int .i64 0, .int .i64 0, .string ⟨#[]⟩] 41)
    refine bodyPost_ret (v := .tuple #[Gm.noMsg.val, .int .i64 5]) (by simp [results, Try.results9, go_sem, k0, k1, k2, k3, Gm.noMsg, Gm.Msg.val]) rfl ⟨HE.out.1.symm, ?_, ?_⟩
    · rw [HE.out.2]
      exact (H.out.off4 HOF.out _ _ _ _).below hbf
    · exact (Gm.moved4 (.of_below HB.out.1) (Nat.le_refl _) _ _ _ _).trans (.of_below hbf)
  | some x =>
    obtain ⟨hx, hxi⟩ := (Gm.findM_iff hg.1).1 hf
    have hgx := hg.2.2 x hx
    obtain ⟨xi, xf, xt, xs⟩ := x
    rw [hf] at HL
    have HLx : Hid ((Instr.lookup 53 (.map (some B)) (.int .u64 id) true).run Try.prog W = .ok (.tuple #[.agg #[.int .u64 xi, .int .i64 xf, .int .i64 xt, .string xs], .bool true]) W) := HL.out
    obtain ⟨W2, hW2⟩ : ∃ W2, W2 = W.alloc (.cells #[.int .u64 xi, .int .i64 xf, .int .i64 xt, .string xs] 41) := ⟨_, rfl⟩
    have hb2 : Below W.heap.size W W2 := by rw [hW2]; exact (Below.refl _ _).alloc (Nat.le_refl _) _
    have hB2 : Below w.heap.size w W2 := hb.trans (hb2.mono hb.size)
    have hr2 : W2.heap[w.heap.size]? = some (.cells #[.int .u64 0, .int .i64 0, .int .i64 0, .string ⟨#[]⟩] 41 (0, 0)) := (hb2.block _ (Gm.ltHeap hr0)).trans hr0
    have hx2 : W2.heap[w.heap.size + 1]? = some (.cells #[.int .u64 xi, .int .i64 xf, .int .i64 xt, .string xs] 41 (0, 0)) := by rw [hW2, ← hWs]; exact heap_alloc_new W _
    have h2 := h.below hB2
    have hof2 := h.fresh (Nat.le_succ w.heap.size)
    have H2 := Lib.hid (And.intro h2 (And.intro hB2 (And.intro hr2 (And.intro hx2 hof2))))
    have HST := Lib.hid (gstopped h2 ⟨xi, xf, xt, xs⟩ (Gm.plc_wf hgx.1) (Gm.plc_wf hgx.2.1))
    have HTD : Hid (∀ w, Calls Try.prog 30 #[.agg #[.int .u64 xi, .int .i64 xf, .int .i64 xt, .string xs]] w fun e w' => e = .returned (.agg #[.int .u64 xi, .int .i64 xf, .int .i64 xt, .string xs]) ∧ Below w.heap.size w w') := fun w => gtold ⟨xi, xf, xt, xs⟩ w (by have := hgx.2.2; simp only at this; omega)
    have x0 : W2.cell? ⟨w.heap.size + 1, 0, none⟩ = some (.int .u64 xi) := cell_of_row _ _ 0 _ _ _ hx2
    have x1 : W2.cell? ⟨w.heap.size + 1, 1, none⟩ = some (.int .i64 xf) := cell_of_row _ _ 1 _ _ _ hx2
    have x2 : W2.cell? ⟨w.heap.size + 1, 2, none⟩ = some (.int .i64 xt) := cell_of_row _ _ 2 _ _ _ hx2
    have x3 : W2.cell? ⟨w.heap.size + 1, 3, none⟩ = some (.string xs) := cell_of_row _ _ 3 _ _ _ hx2
    cases hc : Gm.isCut xf xt cs with
    | true =>
      have HE : Hid (Gm.takeE id cs l = .returned (.tuple #[Gm.noMsg.val, .int .i64 90]) ∧ Gm.takeL id cs l = l) := by
        unfold Gm.takeE Gm.takeL
        rw [hf]
        simp only [hc]
        exact ⟨rfl, rfl⟩
      simp only [hc] at HST
      clear h hg hb hr0 h1 hoff hf HL H HG hx hxi hgx hb2 hB2 hr2 hx2 h2 hof2 HTD hc HB
      go_enter Try.func9, Try.ntmps9
      go_wp2_with fail
      rw [← hW]
      clear hW
      refine HIS.out.mono ?_
      rintro e w2 ⟨rfl, rfl⟩
      go_wp2_with (at_lookup; refine Gm.gpl_look _ rfl _ _ _ _ rfl _ _ _ rfl rfl HLx.out ?_)
      rw [← hW2]
      clear hW2 c1 x0 x1 x2 x3
      refine HST.out.mono ?_
      rintro e w3 ⟨rfl, hb3⟩
      have hP3 := H2.out.1.below hb3
      have hB3 : Below w.heap.size w w3 := H2.out.2.1.trans (hb3.mono H2.out.2.1.size)
      have hr3 := (hb3.block _ (Gm.ltHeap H2.out.2.2.1)).trans H2.out.2.2.1
      have e0 : w3.cell? ⟨w.heap.size, 0, none⟩ = some (.int .u64 0) := cell_of_row _ _ 0 _ _ _ hr3
      have e1 : w3.cell? ⟨w.heap.size, 1, none⟩ = some (.int .i64 0) := cell_of_row _ _ 1 _ _ _ hr3
      have e2 : w3.cell? ⟨w.heap.size, 2, none⟩ = some (.int .i64 0) := cell_of_row _ _ 2 _ _ _ hr3
      have e3 : w3.cell? ⟨w.heap.size, 3, none⟩ = some (.string ⟨#[]⟩) := cell_of_row _ _ 3 _ _ _ hr3
      have f0 := frozen_of_row _ _ 0 _ _ hr3
      have f1 := frozen_of_row _ _ 1 _ _ hr3
      have f2 := frozen_of_row _ _ 2 _ _ hr3
      have f3 := frozen_of_row _ _ 3 _ _ hr3
      have H3 := Lib.hid (And.intro hP3 (And.intro hB3 hr3))
      clear hP3 hB3 hr3 hb3
      go_wp2_with fail
      have hr4 := Gm.cells4 H3.out.2.2 (.int .u64 0) (.int .i64 0) (.int .i64 0) (.string ⟨#[]⟩)
      have k0 := cell_of_row _ _ 0 _ _ _ hr4
      have k1 := cell_of_row _ _ 1 _ _ _ hr4
      have k2 := cell_of_row _ _ 2 _ _ _ hr4
      have k3 := cell_of_row _ _ 3 _ _ _ hr4
      refine bodyPost_ret (v := .tuple #[Gm.noMsg.val, .int .i64 90]) (by simp [results, Try.results9, go_sem, k0, k1, k2, k3, Gm.noMsg, Gm.Msg.val]) rfl ⟨HE.out.1.symm, ?_, ?_⟩
      · rw [HE.out.2]
        exact H3.out.1.off4 HOF.out _ _ _ _
      · exact Gm.moved4 (.of_below H3.out.2.1) (Nat.le_refl _) _ _ _ _
    | false =>
      have HE : Hid (Gm.takeE id cs l = .returned (.tuple #[.agg #[.int .u64 xi, .int .i64 xf, .int .i64 xt, .string xs], .int .i64 0]) ∧ Gm.takeL id cs l = Gm.dropM id l) := by
        unfold Gm.takeE Gm.takeL
        rw [hf]
        simp only [hc]
        exact ⟨rfl, rfl⟩
      simp only [hc] at HST
      have HD := Lib.hid hg.1
      clear h hg hb hr0 h1 hoff hf HL H HG hx hxi hgx hb2 hB2 hr2 hx2 h2 hof2 hc HB
      go_enter Try.func9, Try.ntmps9
      go_wp2_with fail
      rw [← hW]
      clear hW
      refine HIS.out.mono ?_
      rintro e w2 ⟨rfl, rfl⟩
      go_wp2_with (at_lookup; refine Gm.gpl_look _ rfl _ _ _ _ rfl _ _ _ rfl rfl HLx.out ?_)
      rw [← hW2]
      clear hW2 c1 x0 x1 x2 x3
      refine HST.out.mono ?_
      rintro e w3 ⟨rfl, hb3⟩
      have hP3 := H2.out.1.below hb3
      have hB3 : Below w.heap.size w w3 := H2.out.2.1.trans (hb3.mono H2.out.2.1.size)
      have hr3 := (hb3.block _ (Gm.ltHeap H2.out.2.2.1)).trans H2.out.2.2.1
      have hx3 := (hb3.block _ (Gm.ltHeap H2.out.2.2.2.1)).trans H2.out.2.2.2.1
      have c1 := hP3.c1
      obtain ⟨w4, hd4, hP4, mv4⟩ := hP3.delOn HD.out id i0 i1 0
      have hr4 := (mv4.block _ (Gm.ltHeap hr3) HOF.out).trans hr3
      have hx4 := (mv4.block _ (Gm.ltHeap hx3) H2.out.2.2.2.2).trans hx3
      have HD4 := Lib.hid hd4
      have x0 : w4.cell? ⟨w.heap.size + 1, 0, none⟩ = some (.int .u64 xi) := cell_of_row _ _ 0 _ _ _ hx4
      have x1 : w4.cell? ⟨w.heap.size + 1, 1, none⟩ = some (.int .i64 xf) := cell_of_row _ _ 1 _ _ _ hx4
      have x2 : w4.cell? ⟨w.heap.size + 1, 2, none⟩ = some (.int .i64 xt) := cell_of_row _ _ 2 _ _ _ hx4
      have x3 : w4.cell? ⟨w.heap.size + 1, 3, none⟩ = some (.string xs) := cell_of_row _ _ 3 _ _ _ hx4
      have H4 := Lib.hid (And.intro hP4 (And.intro ((Gm.Mvg.of_below hB3).trans mv4) hr4))
      clear hP3 hB3 hr3 hb3 hx3 hd4 hP4 mv4 hr4 hx4
      go_wp2_with (at_delete; refine Gm.gpl_del _ rfl _ _ _ _ rfl _ _ rfl rfl w4 HD4.out ?_)
      refine (HTD.out _).mono ?_
      rintro e w5 ⟨rfl, hb5⟩
      have hr5 := (hb5.block _ (Gm.ltHeap H4.out.2.2)).trans H4.out.2.2
      have e0 : w5.cell? ⟨w.heap.size, 0, none⟩ = some (.int .u64 0) := cell_of_row _ _ 0 _ _ _ hr5
      have e1 : w5.cell? ⟨w.heap.size, 1, none⟩ = some (.int .i64 0) := cell_of_row _ _ 1 _ _ _ hr5
      have e2 : w5.cell? ⟨w.heap.size, 2, none⟩ = some (.int .i64 0) := cell_of_row _ _ 2 _ _ _ hr5
      have e3 : w5.cell? ⟨w.heap.size, 3, none⟩ = some (.string ⟨#[]⟩) := cell_of_row _ _ 3 _ _ _ hr5
      have f0 := frozen_of_row _ _ 0 _ _ hr5
      have f1 := frozen_of_row _ _ 1 _ _ hr5
      have f2 := frozen_of_row _ _ 2 _ _ hr5
      have f3 := frozen_of_row _ _ 3 _ _ hr5
      have H5 := Lib.hid (And.intro (H4.out.1.below hb5) (And.intro (H4.out.2.1.trans (.of_below hb5)) hr5))
      clear hr5 hb5
      go_wp2_with fail
      have hr4 := Gm.cells4 H5.out.2.2 (.int .u64 xi) (.int .i64 xf) (.int .i64 xt) (.string xs)
      have k0 := cell_of_row _ _ 0 _ _ _ hr4
      have k1 := cell_of_row _ _ 1 _ _ _ hr4
      have k2 := cell_of_row _ _ 2 _ _ _ hr4
      have k3 := cell_of_row _ _ 3 _ _ _ hr4
      refine bodyPost_ret (v := .tuple #[.agg #[.int .u64 xi, .int .i64 xf, .int .i64 xt, .string xs], .int .i64 0]) (by simp [results, Try.results9, go_sem, k0, k1, k2, k3]) rfl ⟨HE.out.1.symm, ?_, ?_⟩
      · rw [HE.out.2]
        exact H5.out.1.off4 HOF.out _ _ _ _
      · exact Gm.moved4 H5.out.2.1 (Nat.le_refl _) _ _ _ _
end Go.Proofs.Ytfhengihdlojmaa
