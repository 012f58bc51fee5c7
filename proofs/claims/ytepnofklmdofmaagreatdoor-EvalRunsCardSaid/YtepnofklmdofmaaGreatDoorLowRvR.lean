/-
  Layer 13: the document's Root, Eval, Tree.
  Layer 13: the document's Trees: two that are the same.
  What a program comes to, and all its tasks, or why it can't be run (EvalRuns): the walk.
-/
import Derived.Test.YtepnofklmdofmaaGreatDoorRvO
import Derived.Test.YtepnofklmdofmaaGreatDoorLowEvK
import Derived.Test.YtepnofklmdofmaaGreatDoorLowChI
import Derived.BigQuiet
import Derived.Deep.QuietTactic
import Derived.Deep.RegionHeld3
import Derived.Test.YtepnofklmdofmaaGreatDoorLowEvV
import Derived.Test.YtepnofklmdofmaaGreatDoorLowEvQ
section
namespace Go.Proofs.YtepnofklmdofmaaGreatDoor
open Go.RowKit

theorem rdo (l : List Cd.Fm) (PA : Option Addr) (pc : Nat) (hG : ∀ f ∈ Cd.fns l, Ev.GoodF (Cd.fns l) f) : ∀ N, Ev.RDoAll l PA pc N := fun N =>
  Nat.strongRecOn N fun n ih => rdo_step l PA pc hG n ih

namespace Ev
/-- append([]int64{}, xs...). -/
theorem lappend0 (w : World) (A : Option Addr) (xs : List Int) (c : Nat) (hl : Lies w w.heap.size A (icells xs)) (hn : xs.length ≤ 100000) (ty : TypeId) :
    ∃ v' w', (Builtin.append_ #[25, 25] ty #[.slice (some ⟨w.heap.size, 0, none⟩) 0 0, .slice A xs.length c]).run Tryz.prog (w.alloc (.cells #[] 2)) = .ok v' w' ∧ w'.ownsRow w.heap.size 2 1 v' xs.length (icells xs) ∧ Below w.heap.size w w' := by
  obtain ⟨i, hi, hz⟩ := Option.map_eq_some_iff.1 i64_info
  simp only [Prod.mk.injEq] at hz
  obtain ⟨z1, z2, z3⟩ := hz
  have hlen : (icells xs).length = xs.length := by unfold icells; simp
  have hb : Below w.heap.size w (w.alloc (.cells #[] 2)) := Cd.fn1 _ _ _
  have hown : (w.alloc (.cells #[] 2)).ownsRow w.heap.size 2 1 (.slice (some ⟨w.heap.size, 0, none⟩) 0 0) 0 [] :=
    ⟨rfl, .inr ⟨w.heap.size, 0, #[], rfl, Nat.le_refl _, heap_alloc_new w _, Nat.le_refl _, Nat.zero_le _, rfl, rfl⟩⟩
  have hone : ∀ u ∈ icells xs, u.oneCell' = true := oneCells xs
  cases xs with
  | nil =>
    refine ⟨.slice (some ⟨w.heap.size, 0, none⟩) 0 0, w.alloc (.cells #[] 2), ?_, hown, hb⟩
    cases A <;> simp [Builtin.append_, run_underlying (P := Tryz.prog) Tryz.underlying25, sizeOf, typeInfo, hi, Builtin.lenOf, Builtin.firstCells, loadCells, loadCellsFrom, storeCells]
  | cons x xs =>
    have hl2 := (hl.below hb).mono hb.size
    obtain ⟨ad, rfl, _, hc⟩ := hl2 (by rw [hlen]; simp)
    obtain ⟨v', w', a, b, d, _⟩ := run_append_own_at (P := Tryz.prog) (w.alloc (.cells #[] 2)) w.heap.size 25 ty 2 i _ 1 8 Tryz.underlying25 hi z1 z2 z3 rfl (by omega) (.slice (some ⟨w.heap.size, 0, none⟩) 0 0) 0 [] hown ad (x :: xs).length c (icells (x :: xs)) (by rw [hlen]; omega) hc hone (by unfold maxLen; omega) (by omega) hb.size
    refine ⟨v', w', a, ?_, ?_⟩
    · rw [Nat.zero_add, List.nil_append] at b
      exact b
    · exact hb.grown d hb.size (fun k hk => by
        have : k = w.heap.size := (Option.some.inj hk).symm
        omega)
end Ev
set_option maxHeartbeats 2000000 in
set_option maxRecDepth 20000 in
theorem rRoot13 (A : Option Addr) (c : Nat) (l : List Cd.Fm) (w : World) (hR : ∀ m ∈ l, m.f.Rng) (hn : l.length ≤ maxLen) (hP : Cd.Prog w w.heap.size A l) (A2 : Option Addr) (xs : List Int) (c2 : Nat) (hl : Lies w w.heap.size A2 (icells xs)) (hx : xs.length ≤ 100000) (fuel : Int) :
    Calls Tryz.prog 13 #[.agg #[.slice A l.length c], .slice A2 xs.length c2, .int .i64 fuel] w (Ev.RootP (Cd.fns l) xs fuel w) := by
  obtain ⟨V, hV⟩ : ∃ V, V = w.alloc (.cells #[.slice A l.length c] 24) := ⟨_, rfl⟩
  obtain ⟨W, hW⟩ : ∃ W, W = V.alloc (.cells #[.string ⟨#[]⟩, .int .i64 0, .slice none 0 0, .int .i64 0] 41) := ⟨_, rfl⟩
  have hVs : V.heap.size = w.heap.size + 1 := by rw [hV]; simp
  have hb1 : Below w.heap.size w V := by rw [hV]; exact Cd.fn1 _ _ _
  have hb2 : Below V.heap.size V W := by rw [hW]; exact Cd.fn1 _ _ _
  have hb : Below w.heap.size w W := hb1.trans (hb2.mono hb1.size)
  have p0 : W.cell? ⟨w.heap.size, 0, none⟩ = some (.slice A l.length c) := cell_of_row _ _ 0 _ _ _ ((hb2.block w.heap.size (by omega)).trans (by rw [hV]; exact heap_alloc_new w _))
  have hT : W.heap[w.heap.size + 1]? = some (.cells #[.string ⟨#[]⟩, .int .i64 0, .slice none 0 0, .int .i64 0] 41 (0, 0)) := by rw [← hVs, hW]; exact heap_alloc_new V _
  have HT := Lib.hid hT
  have HB := Lib.hid hb
  have HLI := Lib.hid ((hl.below hb).mono hb.size)
  have HIN := Lib.hid (rInput11 A c l W hR hn ((hP.below hb).mono hb.size) A2 xs.length c2 (by unfold maxLen; omega))
  have HX := Lib.hid hx
  have HI : Hid ((Tryz.prog.info? 41).map (·.size) = some 4) := Ev.task_size
  have HRE : Hid (Ev.rootE (Cd.fns l) xs.length fuel = if Ck.inp (Cd.fns l) xs.length ≠ 0 then (Ck.inp (Cd.fns l) xs.length : Int) else if fuel < 0 ∨ 65536 < fuel then 2 else 0) := rfl
  clear hR hn hP hl hx hb1 hb2 hb hT
  go_enter Tryz.func13, Tryz.ntmps13
  go_upto_region 1 with fail
  rw [← hV, ← hVs, ← hW, hVs]
  clear hV hW hVs
  obtain ⟨Z, hZe⟩ : ∃ Z, Z = w.heap.size := ⟨_, rfl⟩
  obtain ⟨Y, hYe⟩ : ∃ Y, Y = w.heap.size + 1 := ⟨_, rfl⟩
  rw [← hYe] at HT ⊢
  rw [← hZe] at p0 ⊢
  have HZE := Lib.hid hZe
  have HYE := Lib.hid hYe
  clear hZe hYe
  generalize Ck.inp (Cd.fns l) xs.length = ie at HIN HRE
  go_wp2_with fail
  refine HIN.out.mono ?_
  rintro e w1 ⟨rfl, hb1⟩
  have H1 := Lib.hid (HB.out.trans (hb1.mono HB.out.size))
  have hY1 := (hb1.block Y (Cd.ltH HT.out)).trans HT.out
  have HT1 := Lib.hid hY1
  have HLI1 := Lib.hid ((HLI.out.below hb1).mono hb1.size)
  have HW1 : Hid (w.heap.size ≤ w1.heap.size ∧ Y < w1.heap.size) := ⟨H1.out.size, Cd.ltH hY1⟩
  clear hb1 hY1 p0 HIN HT HLI
  have y0 : w1.cell? ⟨Y, 0, none⟩ = some (.string ⟨#[]⟩) := cell_of_row _ _ 0 _ _ _ HT1.out
  have y1 : w1.cell? ⟨Y, 1, none⟩ = some (.int .i64 0) := cell_of_row _ _ 1 _ _ _ HT1.out
  have y2 : w1.cell? ⟨Y, 2, none⟩ = some (.slice none 0 0) := cell_of_row _ _ 2 _ _ _ HT1.out
  have y3 : w1.cell? ⟨Y, 3, none⟩ = some (.int .i64 0) := cell_of_row _ _ 3 _ _ _ HT1.out
  have yf0 := frozen_of_row _ _ 0 _ _ HT1.out
  have yf1 := frozen_of_row _ _ 1 _ _ HT1.out
  have yf2 := frozen_of_row _ _ 2 _ _ HT1.out
  have yf3 := frozen_of_row _ _ 3 _ _ HT1.out
  by_cases hi : ie = 0
  · subst hi
    by_cases hf : fuel < 0 ∨ 65536 < fuel
    · have HE : Hid (Ev.rootE (Cd.fns l) xs.length fuel = 2) := by show _ = _; rw [HRE.out, if_neg (by simp), if_pos hf]
      have HRW := Lib.hid (Ev.set4_heap (x := .string ⟨#[]⟩) (y := .int .i64 0) (z := .slice none 0 0) (u := .int .i64 0) HT1.out)
      have HBW := Lib.hid (Ev.set4_below (x := .string ⟨#[]⟩) (y := .int .i64 0) (z := .slice none 0 0) (u := .int .i64 0) (Q := Y) H1.out (by have := HYE.out; omega))
      by_cases hf0 : fuel < 0
      · clear hf
        go_wp2_with fail
        refine bodyPost_ret (v := .tuple #[.agg #[.string ⟨#[]⟩, .int .i64 0, .slice none 0 0, .int .i64 0], .int .i64 2]) (Cd.results_ct Tryz.results13 _ _ Y 41 #[.string ⟨#[]⟩, .int .i64 0, .slice none 0 0, .int .i64 0] (0, 0) _ rfl HRW.out Tryz.underlying41 rfl HI.out _ rfl) rfl ?_
        exact ⟨HBW.out, .inl ⟨by rw [HE.out]; decide, by rw [HE.out]⟩⟩
      · have hf1 : 65536 < fuel := by omega
        clear hf
        go_wp2_with fail
        refine bodyPost_ret (v := .tuple #[.agg #[.string ⟨#[]⟩, .int .i64 0, .slice none 0 0, .int .i64 0], .int .i64 2]) (Cd.results_ct Tryz.results13 _ _ Y 41 #[.string ⟨#[]⟩, .int .i64 0, .slice none 0 0, .int .i64 0] (0, 0) _ rfl HRW.out Tryz.underlying41 rfl HI.out _ rfl) rfl ?_
        exact ⟨HBW.out, .inl ⟨by rw [HE.out]; decide, by rw [HE.out]⟩⟩
    · have HE : Hid (Ev.rootE (Cd.fns l) xs.length fuel = 0) := by show _ = _; rw [HRE.out, if_neg (by simp), if_neg hf]
      have hf0 : ¬ fuel < 0 := fun h => hf (.inl h)
      have hf1 : ¬ 65536 < fuel := fun h => hf (.inr h)
      clear hf
      have HAP := Lib.hid (fun ty => Ev.lappend0 w1 A2 xs c2 HLI1.out HX.out ty)
      obtain ⟨v', w2, hap, hown, hb2⟩ := HAP.out 25
      have HRUN : Hid ((Builtin.append_ #[25, 25] 25 #[.slice (some ⟨w1.heap.size, 0, none⟩) 0 0, .slice A2 xs.length c2]).run Tryz.prog (w1.alloc (.cells #[] 2)) = .ok v' w2) := hap
      obtain ⟨A3, c3, rfl⟩ := Ev.own_slice hown
      have hY2 := (hb2.block Y HW1.out.2).trans HT1.out
      have y0 : w2.cell? ⟨Y, 0, none⟩ = some (.string ⟨#[]⟩) := cell_of_row _ _ 0 _ _ _ hY2
      have y1 : w2.cell? ⟨Y, 1, none⟩ = some (.int .i64 0) := cell_of_row _ _ 1 _ _ _ hY2
      have y2 : w2.cell? ⟨Y, 2, none⟩ = some (.slice none 0 0) := cell_of_row _ _ 2 _ _ _ hY2
      have y3 : w2.cell? ⟨Y, 3, none⟩ = some (.int .i64 0) := cell_of_row _ _ 3 _ _ _ hY2
      have yf0 := frozen_of_row _ _ 0 _ _ hY2
      have yf1 := frozen_of_row _ _ 1 _ _ hY2
      have yf2 := frozen_of_row _ _ 2 _ _ hY2
      have yf3 := frozen_of_row _ _ 3 _ _ hY2
      have HRW := Lib.hid (Ev.set4_heap (x := .string ⟨#[]⟩) (y := .int .i64 0) (z := .slice A3 xs.length c3) (u := .int .i64 fuel) hY2)
      have HFIN : Hid (Ev.RootP (Cd.fns l) xs fuel w (.returned (.tuple #[.agg #[.string ⟨#[]⟩, .int .i64 0, .slice A3 xs.length c3, .int .i64 fuel], .int .i64 0])) ((((w2.setCell ⟨Y, 0, none⟩ (.string ⟨#[]⟩)).setCell ⟨Y, 1, none⟩ (.int .i64 0)).setCell ⟨Y, 2, none⟩ (.slice A3 xs.length c3)).setCell ⟨Y, 3, none⟩ (.int .i64 fuel))) := by
        have hYw : w.heap.size ≤ Y := by have := HYE.out; omega
        have hbw : Below w.heap.size w w2 := H1.out.trans (hb2.mono H1.out.size)
        have hk : ∀ i, i ≠ Y → ((((w2.setCell ⟨Y, 0, none⟩ (.string ⟨#[]⟩)).setCell ⟨Y, 1, none⟩ (.int .i64 0)).setCell ⟨Y, 2, none⟩ (.slice A3 xs.length c3)).setCell ⟨Y, 3, none⟩ (.int .i64 fuel)).heap[i]? = w2.heap[i]? := fun i hi =>
          (Below.heap_setCell _ _ _ _ hi).trans ((Below.heap_setCell _ _ _ _ hi).trans ((Below.heap_setCell _ _ _ _ hi).trans (Below.heap_setCell _ _ _ _ hi)))
        have hrow := Gm.ownsKeep hown fun i hi => hk i (fun e => by have := (hown.lt i hi).1; have := HW1.out.2; omega)
        refine ⟨Ev.set4_below hbw hYw, .inr ⟨HE.out, A3, c3, rfl, Cd.rowLies hrow, fun _ p hp => ?_⟩⟩
        subst hp
        have := (hown.lt p.block rfl).1
        have := HW1.out.1
        omega
      clear hap hown hb2 hY2 HAP
      go_wp2_with (refine Cd.at_app rfl ?_; refine Ev.wpl_app rfl _ _ ⟨rfl, rfl⟩ rfl rfl HRUN.out ?_)
      refine bodyPost_ret (v := .tuple #[.agg #[.string ⟨#[]⟩, .int .i64 0, .slice A3 xs.length c3, .int .i64 fuel], .int .i64 0]) (Cd.results_ct Tryz.results13 _ _ Y 41 #[.string ⟨#[]⟩, .int .i64 0, .slice A3 xs.length c3, .int .i64 fuel] (0, 0) _ rfl HRW.out Tryz.underlying41 rfl HI.out _ rfl) rfl ?_
      exact HFIN.out
  · have hi1 : ((ie : Int) != 0) = true := by simpa using hi
    have hi2 : ((ie : Int) == 0) = false := by simpa using hi
    have HE : Hid (Ev.rootE (Cd.fns l) xs.length fuel = (ie : Int) ∧ (ie : Int) ≠ 0) := ⟨by rw [HRE.out, if_pos hi], by omega⟩
    have HRW := Lib.hid (Ev.set4_heap (x := .string ⟨#[]⟩) (y := .int .i64 0) (z := .slice none 0 0) (u := .int .i64 0) HT1.out)
    have HBW := Lib.hid (Ev.set4_below (x := .string ⟨#[]⟩) (y := .int .i64 0) (z := .slice none 0 0) (u := .int .i64 0) (Q := Y) H1.out (by have := HYE.out; omega))
    clear hi
    go_wp2_with fail
    refine bodyPost_ret (v := .tuple #[.agg #[.string ⟨#[]⟩, .int .i64 0, .slice none 0 0, .int .i64 0], .int .i64 (ie : Int)]) (Cd.results_ct Tryz.results13 _ _ Y 41 #[.string ⟨#[]⟩, .int .i64 0, .slice none 0 0, .int .i64 0] (0, 0) _ rfl HRW.out Tryz.underlying41 rfl HI.out _ rfl) rfl ?_
    exact ⟨HBW.out, .inl ⟨by rw [HE.out.1]; exact HE.out.2, by rw [HE.out.1]⟩⟩

set_option maxHeartbeats 2000000 in
set_option maxRecDepth 20000 in
theorem rEval13 (P : Option Addr) (cp : Nat) (l : List Cd.Fm) (w : World) (hR : ∀ m ∈ l, m.f.Rng) (hn : l.length ≤ maxLen) (hP : Cd.Prog w w.heap.size P l) (A2 : Option Addr) (xs : List Int) (c2 : Nat) (hl : Lies w w.heap.size A2 (icells xs)) (hx : xs.length ≤ 100000) (fuel : Int) :
    Calls Tryz.prog 9 #[.agg #[.slice P l.length cp], .slice A2 xs.length c2, .int .i64 fuel] w (Ev.EvalP (Cd.fns l) xs fuel w) := by
  obtain ⟨V, hV⟩ : ∃ V, V = w.alloc (.cells #[.slice P l.length cp] 24) := ⟨_, rfl⟩
  obtain ⟨W, hW⟩ : ∃ W, W = V.alloc (.cells #[.int .i64 0, .int .i64 0] 30) := ⟨_, rfl⟩
  have hVs : V.heap.size = w.heap.size + 1 := by rw [hV]; simp
  have hb1 : Below w.heap.size w V := by rw [hV]; exact Cd.fn1 _ _ _
  have hb2 : Below V.heap.size V W := by rw [hW]; exact Cd.fn1 _ _ _
  have hb : Below w.heap.size w W := hb1.trans (hb2.mono hb1.size)
  have hZ0 : W.heap[w.heap.size]? = some (.cells #[.slice P l.length cp] 24 (0, 0)) := (hb2.block _ (by omega)).trans (by rw [hV]; exact heap_alloc_new w _)
  have hY0 : W.heap[w.heap.size + 1]? = some (.cells #[.int .i64 0, .int .i64 0] 30 (0, 0)) := by rw [hW, ← hVs]; exact heap_alloc_new V _
  have HRO := Lib.hid (rRoot13 P cp l W hR hn ((hP.below hb).mono hb.size) A2 xs c2 ((hl.below hb).mono hb.size) hx fuel)
  have HP := Lib.hid hP
  have HB := Lib.hid hb
  obtain ⟨Y, hYe⟩ : ∃ Y, Y = w.heap.size + 1 := ⟨_, rfl⟩
  obtain ⟨Z, hZe⟩ : ∃ Z, Z = w.heap.size := ⟨_, rfl⟩
  rw [← hYe] at hY0
  rw [← hZe] at hZ0
  have p0 : W.cell? ⟨Z, 0, none⟩ = some (.slice P l.length cp) := cell_of_row _ _ 0 _ _ _ hZ0
  have HZ := Lib.hid hZ0
  have HY := Lib.hid hY0
  have HYW : Hid (w.heap.size ≤ Y) := by show _ ≤ _; omega
  have HRS := Lib.hid Ev.res_size
  clear hb1 hb2 hb hZ0 hY0 hR hn hP hl hx
  go_enter Tryz.func9, Tryz.ntmps9
  go_upto_region 1 with fail
  rw [← hV, ← hVs, ← hW, hVs]
  try rw [← hYe]
  try rw [← hZe]
  clear hV hW hVs hYe hZe
  go_wp2_with fail
  refine HRO.out.mono ?_
  rintro e w1 ⟨hb1, ⟨hre, rfl⟩ | ⟨hre, A3, c3, rfl, hli, -⟩⟩
  · have hY1 := (hb1.block Y (Cd.ltH HY.out)).trans HY.out
    obtain ⟨w2, hw2⟩ : ∃ w2, w2 = w1.alloc (.cells #[.string ⟨#[]⟩, .int .i64 0, .slice none 0 0, .int .i64 0] 41) := ⟨_, rfl⟩
    have hb2 : Below w1.heap.size w1 w2 := by rw [hw2]; exact Cd.fn1 _ _ _
    have hY2 := (hb2.block Y (Cd.ltH hY1)).trans hY1
    have HE := Lib.hid hre
    have e1 : (Ev.rootE (Cd.fns l) xs.length fuel != 0) = true := by simpa using hre
    generalize hE : Ev.rootE (Cd.fns l) xs.length fuel = E at e1 HE ⊢
    have hev : Ev.evR (Cd.fns l) xs fuel = ⟨0, 0⟩ := by unfold Ev.evR; rw [hE, if_neg HE.out]
    have HBW := Lib.hid (((HB.out.trans (hb1.mono HB.out.size)).trans (hb2.mono (Nat.le_trans HB.out.size hb1.size))))
    have y0 : w2.cell? ⟨Y, 0, none⟩ = some (.int .i64 0) := cell_of_row _ _ 0 _ _ _ hY2
    have y1 : w2.cell? ⟨Y, 1, none⟩ = some (.int .i64 0) := cell_of_row _ _ 1 _ _ _ hY2
    have yf0 := frozen_of_row _ _ 0 _ _ hY2
    have yf1 := frozen_of_row _ _ 1 _ _ hY2
    have HRW := Lib.hid (Ev.set2_heap (x := .int .i64 0) (y := .int .i64 0) hY2)
    have HFIN : Hid (Ev.EvalP (Cd.fns l) xs fuel w (.returned (.tuple #[.agg #[.int .i64 0, .int .i64 0], .int .i64 E])) ((w2.setCell ⟨Y, 0, none⟩ (.int .i64 0)).setCell ⟨Y, 1, none⟩ (.int .i64 0))) := ⟨by rw [hev, hE], (HBW.out.setCell HYW.out _).setCell HYW.out _⟩
    clear hb1 hre hY1 hb2 hY2 hE hev p0
    go_upto_region 2 with fail
    rw [← hw2]
    clear hw2
    go_wp2_with fail
    refine bodyPost_ret (v := .tuple #[.agg #[.int .i64 0, .int .i64 0], .int .i64 E]) (Cd.results_ct Tryz.results9 _ _ Y 30 #[.int .i64 0, .int .i64 0] (0, 0) _ rfl HRW.out Tryz.underlying30 rfl HRS.out _ rfl) rfl ?_
    exact HFIN.out
  · obtain ⟨fu, rfl⟩ := Int.eq_ofNat_of_zero_le (Ev.rootE_zero hre).2.2.1
    obtain ⟨wT, hwT⟩ : ∃ wT, wT = w1.alloc (.cells #[.string ⟨#[]⟩, .int .i64 0, .slice A3 xs.length c3, .int .i64 (fu : Int)] 41) := ⟨_, rfl⟩
    have hbT : Below w1.heap.size w1 wT := by rw [hwT]; exact Cd.fn1 _ _ _
    have hC : wT.heap[w1.heap.size]? = some (.cells #[.string ⟨#[]⟩, .int .i64 0, .slice A3 xs.length c3, .int .i64 (fu : Int)] 41 (0, 0)) := by rw [hwT]; exact heap_alloc_new w1 _
    have hbw : Below w.heap.size w wT := (HB.out.trans (hb1.mono HB.out.size)).trans (hbT.mono (Nat.le_trans HB.out.size hb1.size))
    have hdo := rdo l P cp (Ev.good_of (Ev.rootE_zero hre).1) fu (Ev.root xs fu) A3 c3 wT rfl (Ev.root_ok hre) ((HP.out.below hbw).mono hbw.size) ((hli.below hbT).mono hbT.size)
    have HDO : Hid (Calls Tryz.prog 35 #[.agg #[.slice P l.length cp], .agg #[.string ⟨#[]⟩, .int .i64 0, .slice A3 xs.length c3, .int .i64 (fu : Int)]] wT (Ev.RDoP (Cd.fns l) (Ev.root xs fu) A3 wT)) := hdo
    have hZT := (hbT.block Z (Nat.lt_of_lt_of_le (Cd.ltH HZ.out) hb1.size)).trans ((hb1.block Z (Cd.ltH HZ.out)).trans HZ.out)
    have hYT := (hbT.block Y (Nat.lt_of_lt_of_le (Cd.ltH HY.out) hb1.size)).trans ((hb1.block Y (Cd.ltH HY.out)).trans HY.out)
    have q0 : wT.cell? ⟨Z, 0, none⟩ = some (.slice P l.length cp) := cell_of_row _ _ 0 _ _ _ hZT
    have q1 : wT.cell? ⟨w1.heap.size, 0, none⟩ = some (.string ⟨#[]⟩) := cell_of_row _ _ 0 _ _ _ hC
    have q2 : wT.cell? ⟨w1.heap.size, 1, none⟩ = some (.int .i64 0) := cell_of_row _ _ 1 _ _ _ hC
    have q3 : wT.cell? ⟨w1.heap.size, 2, none⟩ = some (.slice A3 xs.length c3) := cell_of_row _ _ 2 _ _ _ hC
    have q4 : wT.cell? ⟨w1.heap.size, 3, none⟩ = some (.int .i64 (fu : Int)) := cell_of_row _ _ 3 _ _ _ hC
    have HRE := Lib.hid hre
    have HBT := Lib.hid hbw
    have HYT := Lib.hid hYT
    clear hb1 hre hli hbT hC hbw hdo hZT hYT p0
    go_upto_region 2 with fail
    rw [← hwT]
    clear hwT
    go_wp2_with fail
    refine HDO.out.mono ?_
    rintro e w5 ⟨A4, c4, ms, rfl, -, -, -, hb5⟩
    obtain ⟨r, hr⟩ : ∃ r, r = (Ev.doT (Cd.fns l) (Ev.root xs fu)).1 := ⟨_, rfl⟩
    rw [← hr]
    have hev : Ev.evR (Cd.fns l) xs fu = r := by unfold Ev.evR; rw [if_pos HRE.out, hr]
    obtain ⟨w6, hw6⟩ : ∃ w6, w6 = w5.alloc (.cells #[.int .i64 r.val, .int .i64 r.err] 30) := ⟨_, rfl⟩
    have hb6 : Below w5.heap.size w5 w6 := by rw [hw6]; exact Cd.fn1 _ _ _
    have hX6 : w6.heap[w5.heap.size]? = some (.cells #[.int .i64 r.val, .int .i64 r.err] 30 (0, 0)) := by rw [hw6]; exact heap_alloc_new w5 _
    have x0 : w6.cell? ⟨w5.heap.size, 0, none⟩ = some (.int .i64 r.val) := cell_of_row _ _ 0 _ _ _ hX6
    have x1 : w6.cell? ⟨w5.heap.size, 1, none⟩ = some (.int .i64 r.err) := cell_of_row _ _ 1 _ _ _ hX6
    have hY6 := (hb6.block Y (Nat.lt_of_lt_of_le (Cd.ltH HYT.out) hb5.size)).trans ((hb5.block Y (Cd.ltH HYT.out)).trans HYT.out)
    have y0 : w6.cell? ⟨Y, 0, none⟩ = some (.int .i64 0) := cell_of_row _ _ 0 _ _ _ hY6
    have y1 : w6.cell? ⟨Y, 1, none⟩ = some (.int .i64 0) := cell_of_row _ _ 1 _ _ _ hY6
    have yf0 := frozen_of_row _ _ 0 _ _ hY6
    have yf1 := frozen_of_row _ _ 1 _ _ hY6
    have HRW := Lib.hid (Ev.set2_heap (x := .int .i64 r.val) (y := .int .i64 r.err) hY6)
    have HFIN : Hid (Ev.EvalP (Cd.fns l) xs fu w (.returned (.tuple #[.agg #[.int .i64 r.val, .int .i64 r.err], .int .i64 0])) ((w6.setCell ⟨Y, 0, none⟩ (.int .i64 r.val)).setCell ⟨Y, 1, none⟩ (.int .i64 r.err))) :=
      ⟨by rw [hev, HRE.out], (((HBT.out.trans (hb5.mono HBT.out.size)).trans (hb6.mono (Nat.le_trans HBT.out.size hb5.size))).setCell HYW.out _).setCell HYW.out _⟩
    clear hb5 hr hev hb6 hX6 hY6 q0 q1 q2 q3 q4
    go_upto_region 5 with fail
    rw [← hw6]
    clear hw6
    go_wp2_with fail
    refine bodyPost_ret (v := .tuple #[.agg #[.int .i64 r.val, .int .i64 r.err], .int .i64 0]) (Cd.results_ct Tryz.results9 _ _ Y 30 #[.int .i64 r.val, .int .i64 r.err] (0, 0) _ rfl HRW.out Tryz.underlying30 rfl HRS.out _ rfl) rfl ?_
    exact HFIN.out

set_option maxHeartbeats 2000000 in
set_option maxRecDepth 20000 in
theorem rTree13 (P : Option Addr) (cp : Nat) (l : List Cd.Fm) (w : World) (hR : ∀ m ∈ l, m.f.Rng) (hn : l.length ≤ maxLen) (hP : Cd.Prog w w.heap.size P l) (A2 : Option Addr) (xs : List Int) (c2 : Nat) (hl : Lies w w.heap.size A2 (icells xs)) (hx : xs.length ≤ 100000) (fuel most : Int) :
    Calls Tryz.prog 11 #[.agg #[.slice P l.length cp], .slice A2 xs.length c2, .int .i64 fuel, .int .i64 most] w (Ev.TreeP (Cd.fns l) xs fuel most w) := by
  obtain ⟨W, hW⟩ : ∃ V, V = w.alloc (.cells #[.slice P l.length cp] 24) := ⟨_, rfl⟩
  have hb : Below w.heap.size w W := by rw [hW]; exact Cd.fn1 _ _ _
  have hZ0 : W.heap[w.heap.size]? = some (.cells #[.slice P l.length cp] 24 (0, 0)) := by rw [hW]; exact heap_alloc_new w _
  have HRO := Lib.hid (rRoot13 P cp l W hR hn ((hP.below hb).mono hb.size) A2 xs c2 ((hl.below hb).mono hb.size) hx fuel)
  have HP := Lib.hid hP
  have HB := Lib.hid hb
  obtain ⟨Z, hZe⟩ : ∃ Z, Z = w.heap.size := ⟨_, rfl⟩
  rw [← hZe] at hZ0
  have p0 : W.cell? ⟨Z, 0, none⟩ = some (.slice P l.length cp) := cell_of_row _ _ 0 _ _ _ hZ0
  have HZ := Lib.hid hZ0
  clear hb hZ0 hR hn hP hl hx
  go_enter Tryz.func11, Tryz.ntmps11
  go_upto_region 1 with fail
  rw [← hW]
  try rw [← hZe]
  clear hW hZe
  go_wp2_with fail
  refine HRO.out.mono ?_
  rintro e w1 ⟨hb1, ⟨hre, rfl⟩ | ⟨hre, A3, c3, rfl, hli, -⟩⟩
  · have HE := Lib.hid hre
    have e1 : (Ev.rootE (Cd.fns l) xs.length fuel != 0) = true := by simpa using hre
    generalize hE : Ev.rootE (Cd.fns l) xs.length fuel = E at e1 HE ⊢
    have htr : Ev.treeE (Cd.fns l) xs fuel most = E := by unfold Ev.treeE; rw [hE, if_pos HE.out]
    have HFIN : Hid (Ev.TreeP (Cd.fns l) xs fuel most w (.returned (.tuple #[.slice none 0 0, .int .i64 E])) (w1.alloc (.cells #[.string ⟨#[]⟩, .int .i64 0, .slice none 0 0, .int .i64 0] 41))) := ⟨(HB.out.trans (hb1.mono HB.out.size)).alloc (Nat.le_trans HB.out.size hb1.size) _, .inl ⟨by rw [htr]; exact HE.out, by rw [htr]⟩⟩
    clear hb1 hre hE htr p0
    go_wp2_with fail
    go_ret2
    exact HFIN.out
  · obtain ⟨fu, rfl⟩ := Int.eq_ofNat_of_zero_le (Ev.rootE_zero hre).2.2.1
    obtain ⟨wT, hwT⟩ : ∃ wT, wT = w1.alloc (.cells #[.string ⟨#[]⟩, .int .i64 0, .slice A3 xs.length c3, .int .i64 (fu : Int)] 41) := ⟨_, rfl⟩
    have hbT : Below w1.heap.size w1 wT := by rw [hwT]; exact Cd.fn1 _ _ _
    have hC : wT.heap[w1.heap.size]? = some (.cells #[.string ⟨#[]⟩, .int .i64 0, .slice A3 xs.length c3, .int .i64 (fu : Int)] 41 (0, 0)) := by rw [hwT]; exact heap_alloc_new w1 _
    have hbw : Below w.heap.size w wT := (HB.out.trans (hb1.mono HB.out.size)).trans (hbT.mono (Nat.le_trans HB.out.size hb1.size))
    have hdo := rdo l P cp (Ev.good_of (Ev.rootE_zero hre).1) fu (Ev.root xs fu) A3 c3 wT rfl (Ev.root_ok hre) ((HP.out.below hbw).mono hbw.size) ((hli.below hbT).mono hbT.size)
    have HDO : Hid (Calls Tryz.prog 35 #[.agg #[.slice P l.length cp], .agg #[.string ⟨#[]⟩, .int .i64 0, .slice A3 xs.length c3, .int .i64 (fu : Int)]] wT (Ev.RDoP (Cd.fns l) (Ev.root xs fu) A3 wT)) := hdo
    have hZT := (hbT.block Z (Nat.lt_of_lt_of_le (Cd.ltH HZ.out) hb1.size)).trans ((hb1.block Z (Cd.ltH HZ.out)).trans HZ.out)
    have q0 : wT.cell? ⟨Z, 0, none⟩ = some (.slice P l.length cp) := cell_of_row _ _ 0 _ _ _ hZT
    have q1 : wT.cell? ⟨w1.heap.size, 0, none⟩ = some (.string ⟨#[]⟩) := cell_of_row _ _ 0 _ _ _ hC
    have q2 : wT.cell? ⟨w1.heap.size, 1, none⟩ = some (.int .i64 0) := cell_of_row _ _ 1 _ _ _ hC
    have q3 : wT.cell? ⟨w1.heap.size, 2, none⟩ = some (.slice A3 xs.length c3) := cell_of_row _ _ 2 _ _ _ hC
    have q4 : wT.cell? ⟨w1.heap.size, 3, none⟩ = some (.int .i64 (fu : Int)) := cell_of_row _ _ 3 _ _ _ hC
    have HRE := Lib.hid hre
    have HBT := Lib.hid hbw
    clear hb1 hre hli hbT hC hbw hdo hZT p0
    go_upto_region 2 with fail
    rw [← hwT]
    clear hwT
    go_wp2_with fail
    refine HDO.out.mono ?_
    rintro e w5 ⟨A4, c4, ms, rfl, hms, ⟨hlm, -⟩, hga, hb5⟩
    have HMS : Hid (ms.map Ev.Dm.d = (Ev.doT (Cd.fns l) (Ev.root xs fu)).2) := hms
    have hlen : (Ev.doT (Cd.fns l) (Ev.root xs fu)).2.length = ms.length := by rw [← hms, List.length_map]
    have HLN := Lib.hid hlen
    have HDR : Hid (Ev.DRow w5 A4 ms) := ⟨hlm, fun m hm => (hga m hm).li⟩
    have HBF := Lib.hid (HBT.out.trans (hb5.mono HBT.out.size))
    clear hms hlm hga hb5 hlen q0 q1 q2 q3 q4
    by_cases hmo : most < (ms.length : Int)
    · have HTE : Hid (Ev.treeE (Cd.fns l) xs fu most = 134) := by show _ = _; unfold Ev.treeE; rw [if_neg (by rw [HRE.out]; decide), HLN.out, if_pos hmo]
      go_wp2_with fail
      go_ret2
      exact ⟨(HBF.out.alloc HBF.out.size _), .inl ⟨by rw [HTE.out]; decide, by rw [HTE.out]; rfl⟩⟩
    · have HTE : Hid (Ev.treeE (Cd.fns l) xs fu most = 0) := by show _ = _; unfold Ev.treeE; rw [if_neg (by rw [HRE.out]; decide), HLN.out, if_neg hmo]
      go_wp2_with fail
      go_ret2
      exact ⟨(HBF.out.alloc HBF.out.size _), .inr ⟨HTE.out, HRE.out, A4, c4, ms, rfl, HMS.out, HDR.out.below (Cd.fn1 _ _ _)⟩⟩
end Go.Proofs.YtepnofklmdofmaaGreatDoor
end

section
namespace Go.Proofs.YtepnofklmdofmaaGreatDoor
open Go.RowKit

namespace Ev
/-- One of a tree's cells, all seven. -/
theorem d_all {w : World} {B : Nat} {A : Option Addr} {l : List Dm} (h : Lies w B A (dcells l)) {j : Nat} (hj : j < l.length) :
    ∃ p : Addr, A = some p ∧ p.block < B ∧ w.cell? (p.add (j * 7)) = some (.string l[j].d.t.path) ∧ w.cell? ⟨(p.add (j * 7)).block, (p.add (j * 7)).off + 1, none⟩ = some (.int .i64 l[j].d.t.fn) ∧
      w.cell? ⟨(p.add (j * 7)).block, (p.add (j * 7)).off + 2, none⟩ = some (.slice l[j].A l[j].d.t.args.length l[j].c) ∧ w.cell? ⟨(p.add (j * 7)).block, (p.add (j * 7)).off + 3, none⟩ = some (.int .i64 (l[j].d.t.fuel : Int)) ∧
      w.cell? ⟨(p.add (j * 7)).block, (p.add (j * 7)).off + 4, none⟩ = some (.int .i64 l[j].d.r.val) ∧ w.cell? ⟨(p.add (j * 7)).block, (p.add (j * 7)).off + 5, none⟩ = some (.int .i64 l[j].d.r.err) ∧
      w.cell? ⟨(p.add (j * 7)).block, (p.add (j * 7)).off + 6, none⟩ = some (.int .i64 (l[j].d.kids : Int)) := by
  obtain ⟨p, e, hb, h0, h1⟩ := d_at h hj
  exact ⟨p, e, hb, h0, h1 1 _ (by omega) rfl, h1 2 _ (by omega) rfl, h1 3 _ (by omega) rfl, h1 4 _ (by omega) rfl, h1 5 _ (by omega) rfl, h1 6 _ (by omega) rfl⟩
end Ev

set_option maxHeartbeats 1000000 in
set_option maxRecDepth 20000 in
theorem rtasks_same (pa : ByteArray) (fn fu : Int) (xs : List Int) (A A2 : Option Addr) (c c2 : Nat) (w : World) (h1 : Lies w w.heap.size A (icells xs)) (h2 : Lies w w.heap.size A2 (icells xs)) (hn : xs.length ≤ 100000) :
    Calls Tryz.prog 15 #[.agg #[.string pa, .int .i64 fn, .slice A xs.length c, .int .i64 fu], .agg #[.string pa, .int .i64 fn, .slice A2 xs.length c2, .int .i64 fu]] w fun e w' => e = .returned (.bool true) ∧ Below w.heap.size w w' := by
  obtain ⟨V1, hV1⟩ : ∃ V, V = w.alloc (.cells #[.string pa, .int .i64 fn, .slice A xs.length c, .int .i64 fu] 41) := ⟨_, rfl⟩
  obtain ⟨V2, hV2⟩ : ∃ V, V = V1.alloc (.cells #[.string pa, .int .i64 fn, .slice A2 xs.length c2, .int .i64 fu] 41) := ⟨_, rfl⟩
  have hb1 : Below w.heap.size w V1 := by rw [hV1]; exact Cd.fn1 _ _ _
  have hs1 : V1.heap.size = w.heap.size + 1 := by rw [hV1]; simp
  have hb2 : Below V1.heap.size V1 V2 := by rw [hV2]; exact Cd.fn1 _ _ _
  have hB2 : Below w.heap.size w V2 := hb1.trans (hb2.mono hb1.size)
  have hX : V2.heap[w.heap.size]? = some (.cells #[.string pa, .int .i64 fn, .slice A xs.length c, .int .i64 fu] 41 (0, 0)) := (hb2.block w.heap.size (by omega)).trans (by rw [hV1]; exact heap_alloc_new w _)
  have hT : V2.heap[w.heap.size + 1]? = some (.cells #[.string pa, .int .i64 fn, .slice A2 xs.length c2, .int .i64 fu] 41 (0, 0)) := by rw [← hs1, hV2]; exact heap_alloc_new V1 _
  have HB := Lib.hid hB2
  have HL1 := Lib.hid ((h1.below hB2).mono hB2.size)
  have HL2 := Lib.hid ((h2.below hB2).mono hB2.size)
  have HN := Lib.hid hn
  have x0 : V2.cell? ⟨w.heap.size, 0, none⟩ = some (.string pa) := cell_of_row _ _ 0 _ _ _ hX
  have x1 : V2.cell? ⟨w.heap.size, 1, none⟩ = some (.int .i64 fn) := cell_of_row _ _ 1 _ _ _ hX
  have x2 : V2.cell? ⟨w.heap.size, 2, none⟩ = some (.slice A xs.length c) := cell_of_row _ _ 2 _ _ _ hX
  have x3 : V2.cell? ⟨w.heap.size, 3, none⟩ = some (.int .i64 fu) := cell_of_row _ _ 3 _ _ _ hX
  have y0 : V2.cell? ⟨w.heap.size + 1, 0, none⟩ = some (.string pa) := cell_of_row _ _ 0 _ _ _ hT
  have y1 : V2.cell? ⟨w.heap.size + 1, 1, none⟩ = some (.int .i64 fn) := cell_of_row _ _ 1 _ _ _ hT
  have y2 : V2.cell? ⟨w.heap.size + 1, 2, none⟩ = some (.slice A2 xs.length c2) := cell_of_row _ _ 2 _ _ _ hT
  have y3 : V2.cell? ⟨w.heap.size + 1, 3, none⟩ = some (.int .i64 fu) := cell_of_row _ _ 3 _ _ _ hT
  clear hb1 hb2 hB2 hX hT h1 h2 hn
  go_enter Tryz.func15, Tryz.ntmps15
  go_upto_region 1 with fail
  rw [← hV1, ← hV2]
  clear hV1 hV2 hs1
  obtain ⟨Z, hZe⟩ : ∃ Z, Z = w.heap.size := ⟨_, rfl⟩
  rw [← hZe] at x0 x1 x2 x3 y0 y1 y2 y3 ⊢
  clear hZe
  go_wp2_with fail
  go_loopw [5] (fun s5 wr => ∃ k : Nat, k ≤ xs.length ∧ s5 = .int .i64 k ∧ Hid (∃ q, wr = V2.drewN q)) (fun s5 _ => xs.length - (intOf s5).toNat)
  case atStart => exact ⟨0, Nat.zero_le _, rfl, 0, rfl⟩
  case round =>
    rename World => wr
    obtain ⟨k, hk, rfl, HQ⟩ := hrel
    obtain ⟨q, rfl⟩ := HQ.out
    clear HQ
    by_cases hlt : k < xs.length
    · have k0 : (0 : Int) ≤ (k : Int) := by omega
      have k1 : (k : Int) < (xs.length : Int) := by omega
      obtain ⟨ad, rfl, -, hc⟩ := HL1.out (by unfold icells; rw [List.length_map]; omega)
      obtain ⟨ad2, rfl, -, hc2⟩ := HL2.out (by unfold icells; rw [List.length_map]; omega)
      have d0 : V2.cell? (ad.add k) = some (.int .i64 xs[k]) := hc k _ (by unfold icells; rw [List.getElem?_map, List.getElem?_eq_getElem hlt]; rfl)
      have d2 : V2.cell? (ad2.add k) = some (.int .i64 xs[k]) := hc2 k _ (by unfold icells; rw [List.getElem?_map, List.getElem?_eq_getElem hlt]; rfl)
      generalize xs[k] = x at d0 d2
      have hk100 : k ≤ 100000 := by have := HN.out; omega
      have HLT := Lib.hid hlt
      clear hc hc2 hlt
      go_upto_region 6 with fail
      go_region
      go_wp2_with fail
      have hl1 : k < xs.length := HLT.out
      go_roundw
      case rel => exact ⟨k + 1, by omega, by go_num, _, by first | rfl | rw [World.drewN_drewN] | exact (World.drewN_drewN _ _ _).symm⟩
      case measure => simp [intOf]; omega
    · have k1 : ¬ (k : Int) < (xs.length : Int) := by omega
      obtain rfl : k = xs.length := by omega
      clear hlt
      go_wp2_with fail
      go_ret
      exact ⟨rfl, below_drewN HB.out _⟩

set_option maxHeartbeats 1000000 in

set_option maxHeartbeats 4000000 in
set_option maxRecDepth 20000 in
theorem trees_same (A A2 : Option Addr) (c c2 : Nat) (ms ns : List Ev.Dm) (w : World) (h1 : Ev.DRow w A ms) (h2 : Ev.DRow w A2 ns) (he : ms.map Ev.Dm.d = ns.map Ev.Dm.d) (hl : ms.length ≤ 100000) (ha : ∀ m ∈ ms, m.d.t.args.length ≤ 100000) :
    Calls Tryz.prog 14 #[.slice A ms.length c, .slice A2 ns.length c2] w fun e w' => e = .returned (.bool true) ∧ Below w.heap.size w w' := by
  have hln : ns.length = ms.length := by have := congrArg List.length he; rw [List.length_map, List.length_map] at this; exact this.symm
  rw [hln]
  have H1 := Lib.hid h1
  have H2 := Lib.hid h2
  have HE := Lib.hid he
  have HL := Lib.hid hln
  have HA := Lib.hid ha
  clear h1 h2 he hln ha
  go_enter Tryz.func14, Tryz.ntmps14
  go_wp2_with fail
  go_loopw [5] (fun s5 wr => ∃ k : Nat, k ≤ ms.length ∧ s5 = .int .i64 k ∧ Hid (Below w.heap.size w wr)) (fun s5 _ => ms.length - (intOf s5).toNat)
  case atStart => exact ⟨0, Nat.zero_le _, rfl, Below.refl _ _⟩
  case round =>
    obtain ⟨k, hk, rfl, HB⟩ := hrel
    by_cases hlt : k < ms.length
    · have k1 : (k : Int) < (ms.length : Int) := by omega
      have k0 : (0 : Int) ≤ (k : Int) := by omega
      have hd1 := H1.out.below HB.out
      have hd2 := H2.out.below HB.out
      have hln2 := HL.out
      obtain ⟨p, rfl, hpb, p0, p1, p2, p3, p4, p5, p6⟩ := Ev.d_all hd1.li hlt
      obtain ⟨q, rfl, hqb, q0, q1, q2, q3, q4, q5, q6⟩ := Ev.d_all (j := k) hd2.li (by omega)
      have hdd : (ms[k]).d = (ns[k]'(by omega)).d := by
        have := List.getElem_of_eq HE.out (i := k) (by rw [List.length_map]; exact hlt)
        simpa using this
      have hla := hd1.args _ (List.getElem_mem hlt)
      have hlb := hd2.args _ (List.getElem_mem (show k < ns.length by omega))
      have hna := HA.out _ (List.getElem_mem hlt)
      generalize ms[k] = m at p0 p1 p2 p3 p4 p5 p6 hdd hla hna
      generalize ns[k]'(by omega) = n at q0 q1 q2 q3 q4 q5 q6 hdd hlb
      obtain ⟨d, mA, mc⟩ := m
      obtain ⟨d2, nA, nc⟩ := n
      simp only [] at hdd p0 p1 p2 p3 p4 p5 p6 q0 q1 q2 q3 q4 q5 q6 hla hlb hna
      subst hdd
      obtain ⟨⟨pa, fn, ag, fu⟩, ⟨rv, re⟩, kd⟩ := d
      simp only [] at p0 p1 p2 p3 p4 p5 p6 q0 q1 q2 q3 q4 q5 q6 hla hlb hna
      rename World => wr
      have hbd : Below wr.heap.size wr wr.drew := (Below.refl _ _).drew
      have HT := Lib.hid (rtasks_same pa fn (fu : Int) ag mA nA mc nc wr.drew (hla.below hbd) (hlb.below hbd) hna)
      have S0 : Hid ((wr.cell? (p.add (k * 7)) = some (.string pa) ∧ wr.cell? ⟨(p.add (k * 7)).block, (p.add (k * 7)).off + 1, none⟩ = some (.int .i64 fn) ∧ wr.cell? ⟨(p.add (k * 7)).block, (p.add (k * 7)).off + 2, none⟩ = some (.slice mA ag.length mc) ∧ wr.cell? ⟨(p.add (k * 7)).block, (p.add (k * 7)).off + 3, none⟩ = some (.int .i64 (fu : Int)) ∧ wr.cell? ⟨(p.add (k * 7)).block, (p.add (k * 7)).off + 4, none⟩ = some (.int .i64 rv) ∧ wr.cell? ⟨(p.add (k * 7)).block, (p.add (k * 7)).off + 5, none⟩ = some (.int .i64 re) ∧ wr.cell? ⟨(p.add (k * 7)).block, (p.add (k * 7)).off + 6, none⟩ = some (.int .i64 (kd : Int))) ∧ wr.cell? (q.add (k * 7)) = some (.string pa) ∧ wr.cell? ⟨(q.add (k * 7)).block, (q.add (k * 7)).off + 1, none⟩ = some (.int .i64 fn) ∧ wr.cell? ⟨(q.add (k * 7)).block, (q.add (k * 7)).off + 2, none⟩ = some (.slice nA ag.length nc) ∧ wr.cell? ⟨(q.add (k * 7)).block, (q.add (k * 7)).off + 3, none⟩ = some (.int .i64 (fu : Int)) ∧ wr.cell? ⟨(q.add (k * 7)).block, (q.add (k * 7)).off + 4, none⟩ = some (.int .i64 rv) ∧ wr.cell? ⟨(q.add (k * 7)).block, (q.add (k * 7)).off + 5, none⟩ = some (.int .i64 re) ∧ wr.cell? ⟨(q.add (k * 7)).block, (q.add (k * 7)).off + 6, none⟩ = some (.int .i64 (kd : Int))) := ⟨⟨p0, p1, p2, p3, p4, p5, p6⟩, q0, q1, q2, q3, q4, q5, q6⟩
      have HSK : Hid (∀ w2, Below wr.heap.size wr w2 → (w2.cell? (p.add (k * 7)) = some (.string pa) ∧ w2.cell? ⟨(p.add (k * 7)).block, (p.add (k * 7)).off + 1, none⟩ = some (.int .i64 fn) ∧ w2.cell? ⟨(p.add (k * 7)).block, (p.add (k * 7)).off + 2, none⟩ = some (.slice mA ag.length mc) ∧ w2.cell? ⟨(p.add (k * 7)).block, (p.add (k * 7)).off + 3, none⟩ = some (.int .i64 (fu : Int)) ∧ w2.cell? ⟨(p.add (k * 7)).block, (p.add (k * 7)).off + 4, none⟩ = some (.int .i64 rv) ∧ w2.cell? ⟨(p.add (k * 7)).block, (p.add (k * 7)).off + 5, none⟩ = some (.int .i64 re) ∧ w2.cell? ⟨(p.add (k * 7)).block, (p.add (k * 7)).off + 6, none⟩ = some (.int .i64 (kd : Int))) ∧ w2.cell? (q.add (k * 7)) = some (.string pa) ∧ w2.cell? ⟨(q.add (k * 7)).block, (q.add (k * 7)).off + 1, none⟩ = some (.int .i64 fn) ∧ w2.cell? ⟨(q.add (k * 7)).block, (q.add (k * 7)).off + 2, none⟩ = some (.slice nA ag.length nc) ∧ w2.cell? ⟨(q.add (k * 7)).block, (q.add (k * 7)).off + 3, none⟩ = some (.int .i64 (fu : Int)) ∧ w2.cell? ⟨(q.add (k * 7)).block, (q.add (k * 7)).off + 4, none⟩ = some (.int .i64 rv) ∧ w2.cell? ⟨(q.add (k * 7)).block, (q.add (k * 7)).off + 5, none⟩ = some (.int .i64 re) ∧ w2.cell? ⟨(q.add (k * 7)).block, (q.add (k * 7)).off + 6, none⟩ = some (.int .i64 (kd : Int))) := fun w2 hb => by
        have hk := fun a v (h : wr.cell? a = some v) => (hb.cell (World.block_lt_of_cell? wr a h)).trans h
        exact ⟨⟨hk _ _ p0, hk _ _ p1, hk _ _ p2, hk _ _ p3, hk _ _ p4, hk _ _ p5, hk _ _ p6⟩, hk _ _ q0, hk _ _ q1, hk _ _ q2, hk _ _ q3, hk _ _ q4, hk _ _ q5, hk _ _ q6⟩
      have HBD := Lib.hid hbd
      clear hbd hla hlb hna hd1 hd2 hpb hqb hln2
      go_upto_region 6 with fail
      go_region_held3 (fun wx => (wx.cell? (p.add (k * 7)) = some (.string pa) ∧ wx.cell? ⟨(p.add (k * 7)).block, (p.add (k * 7)).off + 1, none⟩ = some (.int .i64 fn) ∧ wx.cell? ⟨(p.add (k * 7)).block, (p.add (k * 7)).off + 2, none⟩ = some (.slice mA ag.length mc) ∧ wx.cell? ⟨(p.add (k * 7)).block, (p.add (k * 7)).off + 3, none⟩ = some (.int .i64 (fu : Int)) ∧ wx.cell? ⟨(p.add (k * 7)).block, (p.add (k * 7)).off + 4, none⟩ = some (.int .i64 rv) ∧ wx.cell? ⟨(p.add (k * 7)).block, (p.add (k * 7)).off + 5, none⟩ = some (.int .i64 re) ∧ wx.cell? ⟨(p.add (k * 7)).block, (p.add (k * 7)).off + 6, none⟩ = some (.int .i64 (kd : Int))) ∧ wx.cell? (q.add (k * 7)) = some (.string pa) ∧ wx.cell? ⟨(q.add (k * 7)).block, (q.add (k * 7)).off + 1, none⟩ = some (.int .i64 fn) ∧ wx.cell? ⟨(q.add (k * 7)).block, (q.add (k * 7)).off + 2, none⟩ = some (.slice nA ag.length nc) ∧ wx.cell? ⟨(q.add (k * 7)).block, (q.add (k * 7)).off + 3, none⟩ = some (.int .i64 (fu : Int)) ∧ wx.cell? ⟨(q.add (k * 7)).block, (q.add (k * 7)).off + 4, none⟩ = some (.int .i64 rv) ∧ wx.cell? ⟨(q.add (k * 7)).block, (q.add (k * 7)).off + 5, none⟩ = some (.int .i64 re) ∧ wx.cell? ⟨(q.add (k * 7)).block, (q.add (k * 7)).off + 6, none⟩ = some (.int .i64 (kd : Int)))
        (first | with_reducible assumption | with_reducible exact S0.out | with_reducible exact CC2.out | exact S0.out)
        (first
          | (go_at_call 15; refine HT.out.mono ?_; rintro e w2 ⟨rfl, hb2⟩; have hb3 := HBD.out.trans hb2; have HB2 := Lib.hid (HB.out.trans (hb3.mono HB.out.size)); have CC2 := Lib.hid (HSK.out w2 hb3)))
      all_goals
        go_wp2_with fail
        go_roundw
        case rel => exact ⟨k + 1, by omega, by go_num, HB2.out⟩
        case measure => simp [intOf]; omega
    · have k1 : ¬ (k : Int) < (ms.length : Int) := by omega
      clear hlt
      go_wp2_with fail
      go_ret
      exact ⟨rfl, HB.out⟩
end Go.Proofs.YtepnofklmdofmaaGreatDoor
end

section
namespace Go.Proofs.YtepnofklmdofmaaGreatDoor
open Go.RowKit

namespace Ev
def treeL (p : List Cd.FnV) (xs : List Int) (fuel most : Int) : List Dn := if treeE p xs fuel most = 0 then (doT p (root xs fuel)).2 else []
def rootX (p : List Cd.FnV) (xs : List Int) (fuel : Int) : List Int := if rootE p xs.length fuel = 0 then xs else []
def rootF (p : List Cd.FnV) (xs : List Int) (fuel : Int) : Int := if rootE p xs.length fuel = 0 then fuel else 0
theorem TreeP.u {p : List Cd.FnV} {xs : List Int} {fuel most : Int} {w : World} {e : Ending} {w' : World} (h : TreeP p xs fuel most w e w') : Below w.heap.size w w' ∧ ∃ (A : Option Addr) (c : Nat) (ms : List Dm), e = .returned (.tuple #[.slice A ms.length c, .int .i64 (treeE p xs fuel most)]) ∧ DRow w' A ms ∧ ms.map Dm.d = treeL p xs fuel most := by
  obtain ⟨hb, ⟨h1, rfl⟩ | ⟨h1, _, A, c, ms, rfl, hm, hd⟩⟩ := h
  · exact ⟨hb, none, 0, [], rfl, ⟨fun hp => by simp [dcells] at hp, fun m hm => by cases hm⟩, by unfold treeL; rw [if_neg h1]; rfl⟩
  · exact ⟨hb, A, c, ms, by rw [h1], hd, by unfold treeL; rw [if_pos h1]; exact hm⟩
theorem RootP.u {p : List Cd.FnV} {xs : List Int} {fuel : Int} {w : World} {e : Ending} {w' : World} (h : RootP p xs fuel w e w') : Below w.heap.size w w' ∧ ∃ (A : Option Addr) (c : Nat), e = .returned (.tuple #[.agg #[.string ⟨#[]⟩, .int .i64 0, .slice A (rootX p xs fuel).length c, .int .i64 (rootF p xs fuel)], .int .i64 (rootE p xs.length fuel)]) ∧ Lies w' w'.heap.size A (icells (rootX p xs fuel)) := by
  obtain ⟨hb, ⟨h1, rfl⟩ | ⟨h1, A, c, rfl, hl, _⟩⟩ := h
  · refine ⟨hb, none, 0, ?_, fun hp => ?_⟩
    · unfold rootX rootF
      rw [if_neg h1, if_neg h1]
      rfl
    · unfold rootX at hp
      rw [if_neg h1] at hp
      simp [icells] at hp
  · refine ⟨hb, A, c, ?_, ?_⟩
    · unfold rootX rootF
      rw [if_pos h1, if_pos h1, h1]
    · unfold rootX
      rw [if_pos h1]
      exact hl
theorem treeE_zero {p : List Cd.FnV} {xs : List Int} {fuel most : Int} (h : treeE p xs fuel most = 0) : rootE p xs.length fuel = 0 := by
  unfold treeE at h
  split at h
  · rename_i h0; exact absurd h h0
  · rename_i h0; omega
theorem treeL_len (p : List Cd.FnV) (xs : List Int) (fuel most : Int) : (treeL p xs fuel most).length ≤ 100000 := by
  unfold treeL
  split
  · rename_i h0
    have h1 := rootE_zero (treeE_zero h0)
    have h2 := doT_len p (root xs fuel)
    have h3 : (root xs fuel).fuel = fuel.toNat := rfl
    omega
  · exact Nat.zero_le _
theorem treeL_args (p : List Cd.FnV) (xs : List Int) (fuel most : Int) : ∀ d ∈ treeL p xs fuel most, d.t.args.length ≤ 100000 := by
  intro d hd
  unfold treeL at hd
  split at hd
  · rename_i h0
    have hre := treeE_zero h0
    have hg := good_of (rootE_zero hre).1
    have ht := doT_tok hg (root_ok hre) d hd
    obtain ⟨n, h1, h2⟩ := (hg _ ht.mem).regs
    obtain ⟨m, h3, h4⟩ := (hg _ ht.mem).args
    have := ht.args
    omega
  · cases hd
end Ev

set_option maxHeartbeats 4000000 in
set_option maxRecDepth 20000 in
theorem runs13 (l : List Cd.Fm) (hR : ∀ m ∈ l, m.f.Rng) (hn : l.length ≤ maxLen) (A : Option Addr) (c : Nat) (w : World) (hP : Cd.Prog w w.heap.size A l) (hL : Ck.Laid w) (A2 : Option Addr) (xs : List Int) (c2 : Nat) (hl : Lies w w.heap.size A2 (icells xs)) (fuel most : Int) :
    Calls Tryz.prog 3 #[.agg #[.slice A l.length c], .slice A2 xs.length c2, .int .i64 fuel, .int .i64 most] w fun e w' => e = .returned (.bool true) ∧ Below w.heap.size w w' := by
  obtain ⟨W, hW⟩ : ∃ W, W = w.alloc (.cells #[.slice A l.length c] 24) := ⟨_, rfl⟩
  have hb : Below w.heap.size w W := by rw [hW]; exact Cd.fn1 _ _ _
  have hX : Cd.PBlk W w.heap.size (.slice A l.length c) := by show W.heap[_]? = _; rw [hW]; exact heap_alloc_new w _
  have hPW := (hP.below hb).mono hb.size
  have HPW := Lib.hid hPW
  have HLW := Lib.hid (hL.later hb)
  have HLI := Lib.hid ((hl.below hb).mono hb.size)
  have HR := Lib.hid hR
  have HN := Lib.hid hn
  have HX := Lib.hid hX
  have HB := Lib.hid hb
  have HHV := Lib.hid (heavy13 l hR hn A c W hPW A2 xs.length c2 fuel)
  have HAL : Hid (∀ U, Below W.heap.size W U → Calls Tryz.prog 7 #[] U fun e w' => e = .returned (.bool true) ∧ Below w.heap.size w w') := fun U hU => by
    refine (alive13 U (HLW.out.later hU)).mono ?_
    rintro e w' ⟨he, hb'⟩
    exact ⟨he, HB.out.trans ((hU.trans (hb'.mono hU.size)).mono HB.out.size)⟩
  have x0 := hX.c0
  clear hb hPW hL hl hR hn hX hP
  go_enter Tryz.func3, Tryz.ntmps3
  go_upto_region 1 with fail
  rw [← hW]
  clear hW
  obtain ⟨X, hXe⟩ : ∃ X, X = w.heap.size := ⟨_, rfl⟩
  rw [← hXe] at HX x0 ⊢
  clear hXe
  go_wp2_with fail
  refine HHV.out.mono ?_
  rintro e w2 ⟨b, rfl, hhv, hb2⟩
  have HB2 := Lib.hid hb2
  have x02 := (hb2.cell (p := ⟨X, 0, none⟩) HX.out.lt).trans x0
  clear hb2 x0 HHV
  cases b with
  | true =>
    go_wp2_with fail
    refine (HAL.out _ HB2.out).mono ?_
    rintro e w3 ⟨rfl, hb3⟩
    go_wp2_with fail
    go_ret
    exact ⟨rfl, hb3⟩
  | false =>
    have HX1 : Hid (xs.length ≤ 100) := (hhv rfl).1
    have HX5 : Hid (xs.length ≤ 100000) := Nat.le_trans HX1.out (by decide)
    obtain ⟨r, hr⟩ : ∃ r, r = Ev.evR (Cd.fns l) xs fuel := ⟨_, rfl⟩
    obtain ⟨re, hre⟩ : ∃ re, re = Ev.rootE (Cd.fns l) xs.length fuel := ⟨_, rfl⟩
    obtain ⟨te, hte⟩ : ∃ te, te = Ev.treeE (Cd.fns l) xs fuel most := ⟨_, rfl⟩
    obtain ⟨TL, hTL⟩ : ∃ TL, TL = Ev.treeL (Cd.fns l) xs fuel most := ⟨_, rfl⟩
    obtain ⟨RX, hRX⟩ : ∃ RX, RX = Ev.rootX (Cd.fns l) xs fuel := ⟨_, rfl⟩
    obtain ⟨RF, hRF⟩ : ∃ RF, RF = Ev.rootF (Cd.fns l) xs fuel := ⟨_, rfl⟩
    have HE : Hid (∀ U, Below W.heap.size W U → Calls Tryz.prog 8 #[.agg #[.slice A l.length c], .slice A2 xs.length c2, .int .i64 fuel] U fun e w' => e = .returned (.tuple #[.agg #[.int .i64 r.val, .int .i64 r.err], .int .i64 re]) ∧ Below U.heap.size U w') := fun U hU => by
      rw [hr, hre]
      exact eEval A c l U HR.out HN.out ((HPW.out.below hU).mono hU.size) (HLW.out.later hU) A2 xs c2 ((HLI.out.below hU).mono hU.size) HX5.out fuel
    have HE2 : Hid (∀ U, Below W.heap.size W U → Calls Tryz.prog 9 #[.agg #[.slice A l.length c], .slice A2 xs.length c2, .int .i64 fuel] U fun e w' => e = .returned (.tuple #[.agg #[.int .i64 r.val, .int .i64 r.err], .int .i64 re]) ∧ Below U.heap.size U w') := fun U hU => by
      rw [hr, hre]
      exact rEval13 A c l U HR.out HN.out ((HPW.out.below hU).mono hU.size) A2 xs c2 ((HLI.out.below hU).mono hU.size) HX5.out fuel
    have HT : Hid (∀ U, Below W.heap.size W U → Calls Tryz.prog 10 #[.agg #[.slice A l.length c], .slice A2 xs.length c2, .int .i64 fuel, .int .i64 most] U fun e w' => Below U.heap.size U w' ∧ ∃ (A : Option Addr) (c : Nat) (ms : List Ev.Dm), e = .returned (.tuple #[.slice A ms.length c, .int .i64 te]) ∧ Ev.DRow w' A ms ∧ ms.map Ev.Dm.d = TL) := fun U hU => by
      rw [hte, hTL]
      exact (eTree A c l U HR.out HN.out ((HPW.out.below hU).mono hU.size) (HLW.out.later hU) A2 xs c2 ((HLI.out.below hU).mono hU.size) HX5.out fuel most).mono fun e w' h => h.u
    have HT2 : Hid (∀ U, Below W.heap.size W U → Calls Tryz.prog 11 #[.agg #[.slice A l.length c], .slice A2 xs.length c2, .int .i64 fuel, .int .i64 most] U fun e w' => Below U.heap.size U w' ∧ ∃ (A : Option Addr) (c : Nat) (ms : List Ev.Dm), e = .returned (.tuple #[.slice A ms.length c, .int .i64 te]) ∧ Ev.DRow w' A ms ∧ ms.map Ev.Dm.d = TL) := fun U hU => by
      rw [hte, hTL]
      exact (rTree13 A c l U HR.out HN.out ((HPW.out.below hU).mono hU.size) A2 xs c2 ((HLI.out.below hU).mono hU.size) HX5.out fuel most).mono fun e w' h => h.u
    have HO : Hid (∀ U, Below W.heap.size W U → Calls Tryz.prog 12 #[.agg #[.slice A l.length c], .slice A2 xs.length c2, .int .i64 fuel] U fun e w' => Below U.heap.size U w' ∧ ∃ (A : Option Addr) (c : Nat), e = .returned (.tuple #[.agg #[.string ⟨#[]⟩, .int .i64 0, .slice A RX.length c, .int .i64 RF], .int .i64 re]) ∧ Lies w' w'.heap.size A (icells RX)) := fun U hU => by
      rw [hRX, hRF, hre]
      exact (eRoot A c l U HR.out HN.out ((HPW.out.below hU).mono hU.size) (HLW.out.later hU) A2 xs c2 ((HLI.out.below hU).mono hU.size) HX5.out fuel).mono fun e w' h => h.u
    have HO2 : Hid (∀ U, Below W.heap.size W U → Calls Tryz.prog 13 #[.agg #[.slice A l.length c], .slice A2 xs.length c2, .int .i64 fuel] U fun e w' => Below U.heap.size U w' ∧ ∃ (A : Option Addr) (c : Nat), e = .returned (.tuple #[.agg #[.string ⟨#[]⟩, .int .i64 0, .slice A RX.length c, .int .i64 RF], .int .i64 re]) ∧ Lies w' w'.heap.size A (icells RX)) := fun U hU => by
      rw [hRX, hRF, hre]
      exact (rRoot13 A c l U HR.out HN.out ((HPW.out.below hU).mono hU.size) A2 xs c2 ((HLI.out.below hU).mono hU.size) HX5.out fuel).mono fun e w' h => h.u
    have HXC : Hid (∀ U, Below W.heap.size W U → U.cell? ⟨X, 0, none⟩ = some (.slice A l.length c)) := fun U hU => (hU.cell (p := ⟨X, 0, none⟩) HX.out.lt).trans HX.out.c0
    have HTB : Hid (TL.length ≤ 100000 ∧ ∀ d ∈ TL, d.t.args.length ≤ 100000) := by rw [hTL]; exact ⟨Ev.treeL_len _ _ _ _, Ev.treeL_args _ _ _ _⟩
    have HRB : Hid (RX.length ≤ 100000) := by
      show _ ≤ _
      rw [hRX]
      unfold Ev.rootX
      split
      · exact HX5.out
      · exact Nat.zero_le _
    clear hhv hr hre hte hTL hRX hRF
    have HC1 := Lib.hid (HE.out w2 HB2.out)
    go_wp2_with fail
    refine HC1.out.mono ?_
    rintro e w3 ⟨rfl, hb3⟩
    obtain ⟨w4, hw4⟩ : ∃ w4, w4 = w3.alloc (.cells #[.int .i64 r.val, .int .i64 r.err] 30) := ⟨_, rfl⟩
    have h34 : Below w3.heap.size w3 w4 := by rw [hw4]; exact Cd.fn1 _ _ _
    obtain ⟨P9, hP9⟩ : ∃ P9, P9 = w3.heap.size := ⟨_, rfl⟩
    have HR9 : Hid (w4.heap[P9]? = some (.cells #[.int .i64 r.val, .int .i64 r.err] 30 (0, 0))) := by show w4.heap[P9]? = _; rw [hw4, hP9]; exact heap_alloc_new w3 _
    have HB4 := Lib.hid (HB2.out.trans ((hb3.trans (h34.mono hb3.size)).mono HB2.out.size))
    have x04 := HXC.out w4 HB4.out
    have HC2 := Lib.hid (HE2.out w4 HB4.out)
    clear hb3 h34 x02 HC1
    go_upto_region 4 with fail
    rw [← hw4, ← hP9]
    clear hw4 hP9
    go_wp2_with fail
    refine HC2.out.mono ?_
    rintro e w5 ⟨rfl, hb5⟩
    obtain ⟨w6, hw6⟩ : ∃ w6, w6 = w5.alloc (.cells #[.int .i64 r.val, .int .i64 r.err] 30) := ⟨_, rfl⟩
    have h56 : Below w5.heap.size w5 w6 := by rw [hw6]; exact Cd.fn1 _ _ _
    have h46 := hb5.trans (h56.mono hb5.size)
    obtain ⟨P11, hP11⟩ : ∃ P11, P11 = w5.heap.size := ⟨_, rfl⟩
    have HR11 : Hid (w6.heap[P9]? = some (.cells #[.int .i64 r.val, .int .i64 r.err] 30 (0, 0)) ∧ w6.heap[P11]? = some (.cells #[.int .i64 r.val, .int .i64 r.err] 30 (0, 0))) := ⟨(h46.block _ (Cd.ltH HR9.out)).trans HR9.out, by rw [hw6, hP11]; exact heap_alloc_new w5 _⟩
    have HB6 := Lib.hid (HB4.out.trans (h46.mono HB4.out.size))
    have x06 := HXC.out w6 HB6.out
    have HC3 := Lib.hid (HT.out w6 HB6.out)
    clear hb5 h56 h46 x04 HC2 HR9
    go_upto_region 5 with fail
    rw [← hw6, ← hP11]
    clear hw6 hP11
    go_wp2_with fail
    refine HC3.out.mono ?_
    rintro e w7 ⟨hb7, A3, c3, ms, rfl, hd7, hm7⟩
    have HB7 := Lib.hid (HB6.out.trans (hb7.mono HB6.out.size))
    have x07 := HXC.out w7 HB7.out
    have HC4 := Lib.hid (HT2.out w7 HB7.out)
    have HR7 : Hid (w7.heap[P9]? = some (.cells #[.int .i64 r.val, .int .i64 r.err] 30 (0, 0)) ∧ w7.heap[P11]? = some (.cells #[.int .i64 r.val, .int .i64 r.err] 30 (0, 0))) := ⟨(hb7.block _ (Cd.ltH HR11.out.1)).trans HR11.out.1, (hb7.block _ (Cd.ltH HR11.out.2)).trans HR11.out.2⟩
    have HD7 := Lib.hid (And.intro hd7 hm7)
    clear hb7 hd7 hm7 x06 HC3 HR11
    go_wp2_with fail
    refine HC4.out.mono ?_
    rintro e w8 ⟨hb8, A4, c4, ns, rfl, hd8, hm8⟩
    have HB8 := Lib.hid (HB7.out.trans (hb8.mono HB7.out.size))
    have x08 := HXC.out w8 HB8.out
    have HC5 := Lib.hid (HO.out w8 HB8.out)
    have HR8 : Hid (w8.heap[P9]? = some (.cells #[.int .i64 r.val, .int .i64 r.err] 30 (0, 0)) ∧ w8.heap[P11]? = some (.cells #[.int .i64 r.val, .int .i64 r.err] 30 (0, 0))) := ⟨(hb8.block _ (Cd.ltH HR7.out.1)).trans HR7.out.1, (hb8.block _ (Cd.ltH HR7.out.2)).trans HR7.out.2⟩
    have HD8 := Lib.hid (And.intro (HD7.out.1.below hb8) (And.intro hd8 (HD7.out.2.trans hm8.symm)))
    have HML : Hid (ms.length ≤ 100000 ∧ ∀ m ∈ ms, m.d.t.args.length ≤ 100000) := ⟨by have := HTB.out.1; rw [← HD7.out.2, List.length_map] at this; exact this, fun m hm => HTB.out.2 m.d (by rw [← HD7.out.2]; exact List.mem_map_of_mem hm)⟩
    clear hb8 hd8 hm8 x07 HC4 HR7 HD7
    go_wp2_with fail
    refine HC5.out.mono ?_
    rintro e w9 ⟨hb9, A5, c5, rfl, hl9⟩
    obtain ⟨wa, hwa⟩ : ∃ wa, wa = w9.alloc (.cells #[.string ⟨#[]⟩, .int .i64 0, .slice A5 RX.length c5, .int .i64 RF] 41) := ⟨_, rfl⟩
    have h9a : Below w9.heap.size w9 wa := by rw [hwa]; exact Cd.fn1 _ _ _
    have h8a := hb9.trans (h9a.mono hb9.size)
    obtain ⟨P17, hP17⟩ : ∃ P17, P17 = w9.heap.size := ⟨_, rfl⟩
    have HQ17 : Hid (wa.heap[P17]? = some (.cells #[.string ⟨#[]⟩, .int .i64 0, .slice A5 RX.length c5, .int .i64 RF] 41 (0, 0))) := by show wa.heap[P17]? = _; rw [hwa, hP17]; exact heap_alloc_new w9 _
    have HBa := Lib.hid (HB8.out.trans (h8a.mono HB8.out.size))
    have x0a := HXC.out wa HBa.out
    have HC6 := Lib.hid (HO2.out wa HBa.out)
    have HRa : Hid (wa.heap[P9]? = some (.cells #[.int .i64 r.val, .int .i64 r.err] 30 (0, 0)) ∧ wa.heap[P11]? = some (.cells #[.int .i64 r.val, .int .i64 r.err] 30 (0, 0))) := ⟨(h8a.block _ (Cd.ltH HR8.out.1)).trans HR8.out.1, (h8a.block _ (Cd.ltH HR8.out.2)).trans HR8.out.2⟩
    have HDa := Lib.hid (And.intro (HD8.out.1.below h8a) (And.intro (HD8.out.2.1.below h8a) HD8.out.2.2))
    have HLa := Lib.hid ((hl9.below h9a).mono h9a.size)
    clear hb9 hl9 h9a h8a x08 HC5 HR8 HD8
    go_upto_region 8 with fail
    rw [← hwa, ← hP17]
    clear hwa hP17
    go_wp2_with fail
    refine HC6.out.mono ?_
    rintro e wb ⟨hbb, A6, c6, rfl, hlb⟩
    obtain ⟨wc, hwc⟩ : ∃ wc, wc = wb.alloc (.cells #[.string ⟨#[]⟩, .int .i64 0, .slice A6 RX.length c6, .int .i64 RF] 41) := ⟨_, rfl⟩
    have hbc : Below wb.heap.size wb wc := by rw [hwc]; exact Cd.fn1 _ _ _
    have hac := hbb.trans (hbc.mono hbb.size)
    obtain ⟨P19, hP19⟩ : ∃ P19, P19 = wb.heap.size := ⟨_, rfl⟩
    have hq19 : wc.heap[P19]? = some (.cells #[.string ⟨#[]⟩, .int .i64 0, .slice A6 RX.length c6, .int .i64 RF] 41 (0, 0)) := by rw [hwc, hP19]; exact heap_alloc_new wb _
    have hq17 : wc.heap[P17]? = some (.cells #[.string ⟨#[]⟩, .int .i64 0, .slice A5 RX.length c5, .int .i64 RF] 41 (0, 0)) := (hac.block _ (Cd.ltH HQ17.out)).trans HQ17.out
    have hBc := HBa.out.trans (hac.mono HBa.out.size)
    have hr9 : wc.heap[P9]? = some (.cells #[.int .i64 r.val, .int .i64 r.err] 30 (0, 0)) := (hac.block _ (Cd.ltH HRa.out.1)).trans HRa.out.1
    have hr11 : wc.heap[P11]? = some (.cells #[.int .i64 r.val, .int .i64 r.err] 30 (0, 0)) := (hac.block _ (Cd.ltH HRa.out.2)).trans HRa.out.2
    have a0 : wc.cell? ⟨P9, 0, none⟩ = some (.int .i64 r.val) := cell_of_row _ _ 0 _ _ _ hr9
    have a1 : wc.cell? ⟨P9, 1, none⟩ = some (.int .i64 r.err) := cell_of_row _ _ 1 _ _ _ hr9
    have b0 : wc.cell? ⟨P11, 0, none⟩ = some (.int .i64 r.val) := cell_of_row _ _ 0 _ _ _ hr11
    have b1 : wc.cell? ⟨P11, 1, none⟩ = some (.int .i64 r.err) := cell_of_row _ _ 1 _ _ _ hr11
    have HTR := Lib.hid (trees_same A3 A4 c3 c4 ms ns wc (HDa.out.1.below hac) (HDa.out.2.1.below hac) HDa.out.2.2 HML.out.1 HML.out.2)
    have HLc : Hid (Lies wc wc.heap.size A5 (icells RX) ∧ Lies wc wc.heap.size A6 (icells RX)) := ⟨(HLa.out.below hac).mono hac.size, (hlb.below hbc).mono hbc.size⟩
    have HQc := Lib.hid (And.intro hq17 hq19)
    have HBc := Lib.hid hBc
    clear hbb hlb hbc hac hq19 hq17 hBc hr9 hr11 x0a HC6 HRa HDa HLa HQ17
    go_upto_region 9 with fail
    rw [← hwc, ← hP19]
    clear hwc hP19
    go_wp2_with fail
    refine HTR.out.mono ?_
    rintro e wd ⟨rfl, hbd⟩
    have hd17 := (hbd.block _ (Cd.ltH HQc.out.1)).trans HQc.out.1
    have hd19 := (hbd.block _ (Cd.ltH HQc.out.2)).trans HQc.out.2
    have t0 : wd.cell? ⟨P17, 0, none⟩ = some (.string ⟨#[]⟩) := cell_of_row _ _ 0 _ _ _ hd17
    have t1 : wd.cell? ⟨P17, 1, none⟩ = some (.int .i64 0) := cell_of_row _ _ 1 _ _ _ hd17
    have t2 : wd.cell? ⟨P17, 2, none⟩ = some (.slice A5 RX.length c5) := cell_of_row _ _ 2 _ _ _ hd17
    have t3 : wd.cell? ⟨P17, 3, none⟩ = some (.int .i64 RF) := cell_of_row _ _ 3 _ _ _ hd17
    have u0 : wd.cell? ⟨P19, 0, none⟩ = some (.string ⟨#[]⟩) := cell_of_row _ _ 0 _ _ _ hd19
    have u1 : wd.cell? ⟨P19, 1, none⟩ = some (.int .i64 0) := cell_of_row _ _ 1 _ _ _ hd19
    have u2 : wd.cell? ⟨P19, 2, none⟩ = some (.slice A6 RX.length c6) := cell_of_row _ _ 2 _ _ _ hd19
    have u3 : wd.cell? ⟨P19, 3, none⟩ = some (.int .i64 RF) := cell_of_row _ _ 3 _ _ _ hd19
    have HTK := Lib.hid (rtasks_same ⟨#[]⟩ 0 RF RX A5 A6 c5 c6 wd ((HLc.out.1.below hbd).mono hbd.size) ((HLc.out.2.below hbd).mono hbd.size) HRB.out)
    have HBd := Lib.hid (HBc.out.trans (hbd.mono HBc.out.size))
    clear hbd hd17 hd19 a0 a1 b0 b1 HTR
    go_wp2_with fail
    refine HTK.out.mono ?_
    rintro e we ⟨rfl, hbe⟩
    have HAE := Lib.hid (HAL.out we (HBd.out.trans (hbe.mono HBd.out.size)))
    clear hbe t0 t1 t2 t3 u0 u1 u2 u3 HTK
    go_wp2_with fail
    refine HAE.out.mono ?_
    rintro e wf ⟨rfl, hbf⟩
    go_wp2_with fail
    go_ret
    exact ⟨rfl, hbf⟩
end Go.Proofs.YtepnofklmdofmaaGreatDoor
end
