/-
  Layer 13: the contracts of eval.Root and of all tasks.
-/
import Derived.Test.YtnlhacgihmelhaaGreatDoorEvJ
import Derived.Test.YtnlhacgihmelhaaGreatDoorLowChF
import Derived.Test.YtnlhacgihmelhaaGreatDoorLowCdN
namespace Go.Proofs.YtnlhacgihmelhaaGreatDoor
open Go.RowKit

namespace Ev
/-- append(nil, l...) of int64s. -/
theorem lappend (w : World) (A : Option Addr) (xs : List Int) (c : Nat) (hl : Lies w w.heap.size A (icells xs)) (hn : xs.length ≤ 100000) (ty : TypeId) :
    ∃ v' w', (Builtin.append_ #[25, 25] ty #[.slice none 0 0, .slice A xs.length c]).run Tryz.prog w = .ok v' w' ∧ w'.ownsRow w.heap.size 2 1 v' xs.length (icells xs) ∧ Below w.heap.size w w' := by
  obtain ⟨i, hi, hz⟩ := Option.map_eq_some_iff.1 i64_info
  simp only [Prod.mk.injEq] at hz
  obtain ⟨z1, z2, z3⟩ := hz
  have hlen : (icells xs).length = xs.length := by unfold icells; simp
  have hown := World.ownsRow_nil w w.heap.size 2 1
  have hone : ∀ u ∈ icells xs, u.oneCell' = true := oneCells xs
  cases xs with
  | nil =>
    refine ⟨.slice none 0 0, w, ?_, hown, Below.refl _ _⟩
    cases A <;> simp [Builtin.append_, run_underlying (P := Tryz.prog) Tryz.underlying25, sizeOf, typeInfo, hi, Builtin.lenOf, Builtin.firstCells, loadCells, loadCellsFrom]
  | cons x xs =>
    obtain ⟨ad, rfl, _, hc⟩ := hl (by rw [hlen]; simp)
    obtain ⟨v', w', a, b, d, _⟩ := run_append_own_at (P := Tryz.prog) w w.heap.size 25 ty 2 i _ 1 8 Tryz.underlying25 hi z1 z2 z3 rfl (by omega) (.slice none 0 0) 0 [] hown ad (x :: xs).length c (icells (x :: xs)) (by rw [hlen]; omega) hc hone (by unfold maxLen; omega) (by omega) (Nat.le_refl _)
    refine ⟨v', w', a, ?_, ?_⟩
    · rw [Nat.zero_add, List.nil_append] at b
      exact b
    · exact (Below.refl _ _).grown d (Nat.le_refl _) (fun k hk => by simp [Value.ownBlock] at hk)
/-- append of a slice, told ahead, at a region's list. -/
theorem wpl_app {w w' : World} {ops : Array Oper} {rest : List Oper} {oo : Oper} {a : Act} {Q : Exit → Act → World → Prop} {v u v' : Value} {ty : TypeId} (hgd : oo.guard = none) (s x : Operand)
    (hop : oo.op = .call { callee := .builtin .append, args := #[s, x], argTypes := #[25, 25] } ∧ oo.type = ty) (hs : a.eval s = v) (hx : a.eval x = u)
    (hr : (Builtin.append_ #[25, 25] ty #[v, u]).run Tryz.prog w = .ok v' w') (h : wpList Tryz.prog ops Q rest (a.put oo.dst v') w') : wpList Tryz.prog ops Q (oo :: rest) a w := by
  obtain ⟨hop, rfl⟩ := hop
  refine wpList_plain hgd fun K' hK' => ?_
  unfold Oper.wp
  simp [execOp, hop, resolve, invoke, builtin, hs, hx, hr, Result.andThen]
  exact hK' _ _ h
def rootE (p : List Cd.FnV) (n : Nat) (fuel : Int) : Int := if Ck.inp p n ≠ 0 then (Ck.inp p n : Int) else if fuel < 0 ∨ 65536 < fuel then 2 else 0
def RootP (p : List Cd.FnV) (xs : List Int) (fuel : Int) (w : World) (e : Ending) (w' : World) : Prop :=
  Below w.heap.size w w' ∧ ((rootE p xs.length fuel ≠ 0 ∧ e = .returned (.tuple #[.agg #[.string ⟨#[]⟩, .int .i64 0, .slice none 0 0, .int .i64 0], .int .i64 (rootE p xs.length fuel)])) ∨
    (rootE p xs.length fuel = 0 ∧ ∃ A c, e = .returned (.tuple #[.agg #[.string ⟨#[]⟩, .int .i64 0, .slice A xs.length c, .int .i64 fuel], .int .i64 0]) ∧ Lies w' w'.heap.size A (icells xs) ∧ (xs ≠ [] → ∀ p, A = some p → w.heap.size ≤ p.block)))
theorem set4_heap {w : World} {Q : Nat} {a b c d x y z u : Value} {T : TypeId} (h : w.heap[Q]? = some (.cells #[a, b, c, d] T (0, 0))) :
    ((((w.setCell ⟨Q, 0, none⟩ x).setCell ⟨Q, 1, none⟩ y).setCell ⟨Q, 2, none⟩ z).setCell ⟨Q, 3, none⟩ u).heap[Q]? = some (.cells #[x, y, z, u] T (0, 0)) := by
  rw [heap_setCell_same _ _ _ _ _ _ (heap_setCell_same _ _ _ _ _ _ (heap_setCell_same _ _ _ _ _ _ (heap_setCell_same _ _ _ _ _ _ h)))]
  rfl
theorem set4_below {lo : Nat} {w w' : World} {Q : Nat} {x y z u : Value} (h : Below lo w w') (hQ : lo ≤ Q) : Below lo w ((((w'.setCell ⟨Q, 0, none⟩ x).setCell ⟨Q, 1, none⟩ y).setCell ⟨Q, 2, none⟩ z).setCell ⟨Q, 3, none⟩ u) :=
  (((h.setCell hQ _).setCell hQ _).setCell hQ _).setCell hQ _
theorem task_size : (Tryz.prog.info? 41).map (·.size) = some 4 := by kernel_rfl
end Ev

set_option maxHeartbeats 2000000 in
set_option maxRecDepth 20000 in
theorem eRoot (A : Option Addr) (c : Nat) (l : List Cd.Fm) (w : World) (hR : ∀ m ∈ l, m.f.Rng) (hn : l.length ≤ maxLen) (hP : Cd.Prog w w.heap.size A l) (hL : Ck.Laid w) (A2 : Option Addr) (xs : List Int) (c2 : Nat) (hl : Lies w w.heap.size A2 (icells xs)) (hx : xs.length ≤ 100000) (fuel : Int) :
    Calls Tryz.prog 14 #[.agg #[.slice A l.length c], .slice A2 xs.length c2, .int .i64 fuel] w (Ev.RootP (Cd.fns l) xs fuel w) := by
  obtain ⟨V, hV⟩ : ∃ V, V = w.alloc (.cells #[.slice A l.length c] 24) := ⟨_, rfl⟩
  obtain ⟨W, hW⟩ : ∃ W, W = V.alloc (.cells #[.string ⟨#[]⟩, .int .i64 0, .slice none 0 0, .int .i64 0] 41) := ⟨_, rfl⟩
  have hVs : V.heap.size = w.heap.size + 1 := by rw [hV]; simp
  have hb1 : Below w.heap.size w V := by rw [hV]; exact Cd.fn1 _ _ _
  have hb2 : Below V.heap.size V W := by rw [hW]; exact Cd.fn1 _ _ _
  have hb : Below w.heap.size w W := hb1.trans (hb2.mono hb1.size)
  have p0 : W.cell? ⟨w.heap.size, 0, none⟩ = some (.slice A l.length c) := cell_of_row _ _ 0 _ _ _ ((hb2.block w.heap.size (by omega)).trans (by rw [hV]; exact heap_alloc_new w _))
  have hT : W.heap[w.heap.size + 1]? = some (.cells #[.string ⟨#[]⟩, .int .i64 0, .slice none 0 0, .int .i64 0] 41 (0, 0)) := by rw [← hVs, hW]; exact heap_alloc_new V _
  have HT := Lib.hid hT
  have HB := Lib.hid hb
  have HLI := Lib.hid ((hl.below hb).mono hb.size)
  have HIN := Lib.hid (kInput A c l W hR hn ((hP.below hb).mono hb.size) (hL.later hb) A2 xs.length c2 (by unfold maxLen; omega))
  have HX := Lib.hid hx
  have HI : Hid ((Tryz.prog.info? 41).map (·.size) = some 4) := Ev.task_size
  have HRE : Hid (Ev.rootE (Cd.fns l) xs.length fuel = if Ck.inp (Cd.fns l) xs.length ≠ 0 then (Ck.inp (Cd.fns l) xs.length : Int) else if fuel < 0 ∨ 65536 < fuel then 2 else 0) := rfl
  clear hR hn hP hL hl hx hb1 hb2 hb hT
  go_enter Tryz.func14, Tryz.ntmps14
  go_upto_region 1 with fail
  rw [← hV, ← hVs, ← hW, hVs]
  clear hV hW hVs
  obtain ⟨Z, hZe⟩ : ∃ Z, Z = w.heap.size := ⟨_, rfl⟩
  obtain ⟨Y, hYe⟩ : ∃ Y, Y = w.heap.size + 1 := ⟨_, rfl⟩
  rw [← hYe] at HT ⊢
  rw [← hZe] at p0 ⊢
  have HZE := Lib.hid hZe
  have HYE := Lib.hid hYe
  clear hZe hYe
  generalize Ck.inp (Cd.fns l) xs.length = ie at HIN HRE
  go_wp2_with fail
  refine HIN.out.mono ?_
  rintro e w1 ⟨rfl, hb1⟩
  have H1 := Lib.hid (HB.out.trans (hb1.mono HB.out.size))
  have hY1 := (hb1.block Y (Cd.ltH HT.out)).trans HT.out
  have HT1 := Lib.hid hY1
  have HLI1 := Lib.hid ((HLI.out.below hb1).mono hb1.size)
  have HW1 : Hid (w.heap.size ≤ w1.heap.size ∧ Y < w1.heap.size) := ⟨H1.out.size, Cd.ltH hY1⟩
  clear hb1 hY1 p0 HIN HT HLI
  have y0 : w1.cell? ⟨Y, 0, none⟩ = some (.string ⟨#[]⟩) := cell_of_row _ _ 0 _ _ _ HT1.out
  have y1 : w1.cell? ⟨Y, 1, none⟩ = some (.int .i64 0) := cell_of_row _ _ 1 _ _ _ HT1.out
  have y2 : w1.cell? ⟨Y, 2, none⟩ = some (.slice none 0 0) := cell_of_row _ _ 2 _ _ _ HT1.out
  have y3 : w1.cell? ⟨Y, 3, none⟩ = some (.int .i64 0) := cell_of_row _ _ 3 _ _ _ HT1.out
  have yf0 := frozen_of_row _ _ 0 _ _ HT1.out
  have yf1 := frozen_of_row _ _ 1 _ _ HT1.out
  have yf2 := frozen_of_row _ _ 2 _ _ HT1.out
  have yf3 := frozen_of_row _ _ 3 _ _ HT1.out
  by_cases hi : ie = 0
  · subst hi
    by_cases hf : fuel < 0 ∨ 65536 < fuel
    · have HE : Hid (Ev.rootE (Cd.fns l) xs.length fuel = 2) := by show _ = _; rw [HRE.out, if_neg (by simp), if_pos hf]
      have HRW := Lib.hid (Ev.set4_heap (x := .string ⟨#[]⟩) (y := .int .i64 0) (z := .slice none 0 0) (u := .int .i64 0) HT1.out)
      have HBW := Lib.hid (Ev.set4_below (x := .string ⟨#[]⟩) (y := .int .i64 0) (z := .slice none 0 0) (u := .int .i64 0) (Q := Y) H1.out (by have := HYE.out; omega))
      by_cases hf0 : fuel < 0
      · clear hf
        go_wp2_with fail
        refine bodyPost_ret (v := .tuple #[.agg #[.string ⟨#[]⟩, .int .i64 0, .slice none 0 0, .int .i64 0], .int .i64 2]) (Cd.results_ct Tryz.results14 _ _ Y 41 #[.string ⟨#[]⟩, .int .i64 0, .slice none 0 0, .int .i64 0] (0, 0) _ rfl HRW.out Tryz.underlying41 rfl HI.out _ rfl) rfl ?_
        exact ⟨HBW.out, .inl ⟨by rw [HE.out]; decide, by rw [HE.out]⟩⟩
      · have hf1 : 65536 < fuel := by omega
        clear hf
        go_wp2_with fail
        refine bodyPost_ret (v := .tuple #[.agg #[.string ⟨#[]⟩, .int .i64 0, .slice none 0 0, .int .i64 0], .int .i64 2]) (Cd.results_ct Tryz.results14 _ _ Y 41 #[.string ⟨#[]⟩, .int .i64 0, .slice none 0 0, .int .i64 0] (0, 0) _ rfl HRW.out Tryz.underlying41 rfl HI.out _ rfl) rfl ?_
        exact ⟨HBW.out, .inl ⟨by rw [HE.out]; decide, by rw [HE.out]⟩⟩
    · have HE : Hid (Ev.rootE (Cd.fns l) xs.length fuel = 0) := by show _ = _; rw [HRE.out, if_neg (by simp), if_neg hf]
      have hf0 : ¬ fuel < 0 := fun h => hf (.inl h)
      have hf1 : ¬ 65536 < fuel := fun h => hf (.inr h)
      clear hf
      have HAP := Lib.hid (fun ty => Ev.lappend w1 A2 xs c2 HLI1.out HX.out ty)
      obtain ⟨v', w2, hap, hown, hb2⟩ := HAP.out 25
      have HRUN : Hid ((Builtin.append_ #[25, 25] 25 #[.slice none 0 0, .slice A2 xs.length c2]).run Tryz.prog w1 = .ok v' w2) := hap
      obtain ⟨A3, c3, rfl⟩ := Ev.own_slice hown
      have hY2 := (hb2.block Y HW1.out.2).trans HT1.out
      have y0 : w2.cell? ⟨Y, 0, none⟩ = some (.string ⟨#[]⟩) := cell_of_row _ _ 0 _ _ _ hY2
      have y1 : w2.cell? ⟨Y, 1, none⟩ = some (.int .i64 0) := cell_of_row _ _ 1 _ _ _ hY2
      have y2 : w2.cell? ⟨Y, 2, none⟩ = some (.slice none 0 0) := cell_of_row _ _ 2 _ _ _ hY2
      have y3 : w2.cell? ⟨Y, 3, none⟩ = some (.int .i64 0) := cell_of_row _ _ 3 _ _ _ hY2
      have yf0 := frozen_of_row _ _ 0 _ _ hY2
      have yf1 := frozen_of_row _ _ 1 _ _ hY2
      have yf2 := frozen_of_row _ _ 2 _ _ hY2
      have yf3 := frozen_of_row _ _ 3 _ _ hY2
      have HRW := Lib.hid (Ev.set4_heap (x := .string ⟨#[]⟩) (y := .int .i64 0) (z := .slice A3 xs.length c3) (u := .int .i64 fuel) hY2)
      have HFIN : Hid (Ev.RootP (Cd.fns l) xs fuel w (.returned (.tuple #[.agg #[.string ⟨#[]⟩, .int .i64 0, .slice A3 xs.length c3, .int .i64 fuel], .int .i64 0])) ((((w2.setCell ⟨Y, 0, none⟩ (.string ⟨#[]⟩)).setCell ⟨Y, 1, none⟩ (.int .i64 0)).setCell ⟨Y, 2, none⟩ (.slice A3 xs.length c3)).setCell ⟨Y, 3, none⟩ (.int .i64 fuel))) := by
        have hYw : w.heap.size ≤ Y := by have := HYE.out; omega
        have hbw : Below w.heap.size w w2 := H1.out.trans (hb2.mono H1.out.size)
        have hk : ∀ i, i ≠ Y → ((((w2.setCell ⟨Y, 0, none⟩ (.string ⟨#[]⟩)).setCell ⟨Y, 1, none⟩ (.int .i64 0)).setCell ⟨Y, 2, none⟩ (.slice A3 xs.length c3)).setCell ⟨Y, 3, none⟩ (.int .i64 fuel)).heap[i]? = w2.heap[i]? := fun i hi =>
          (Below.heap_setCell _ _ _ _ hi).trans ((Below.heap_setCell _ _ _ _ hi).trans ((Below.heap_setCell _ _ _ _ hi).trans (Below.heap_setCell _ _ _ _ hi)))
        have hrow := Gm.ownsKeep hown fun i hi => hk i (fun e => by have := (hown.lt i hi).1; have := HW1.out.2; omega)
        refine ⟨Ev.set4_below hbw hYw, .inr ⟨HE.out, A3, c3, rfl, Cd.rowLies hrow, fun _ p hp => ?_⟩⟩
        subst hp
        have := (hown.lt p.block rfl).1
        have := HW1.out.1
        omega
      clear hap hown hb2 hY2 HAP
      go_wp2_with (refine Cd.at_app rfl ?_; refine Ev.wpl_app rfl _ _ ⟨rfl, rfl⟩ rfl rfl HRUN.out ?_)
      refine bodyPost_ret (v := .tuple #[.agg #[.string ⟨#[]⟩, .int .i64 0, .slice A3 xs.length c3, .int .i64 fuel], .int .i64 0]) (Cd.results_ct Tryz.results14 _ _ Y 41 #[.string ⟨#[]⟩, .int .i64 0, .slice A3 xs.length c3, .int .i64 fuel] (0, 0) _ rfl HRW.out Tryz.underlying41 rfl HI.out _ rfl) rfl ?_
      exact HFIN.out
  · have hi1 : ((ie : Int) != 0) = true := by simpa using hi
    have hi2 : ((ie : Int) == 0) = false := by simpa using hi
    have HE : Hid (Ev.rootE (Cd.fns l) xs.length fuel = (ie : Int) ∧ (ie : Int) ≠ 0) := ⟨by rw [HRE.out, if_pos hi], by omega⟩
    have HRW := Lib.hid (Ev.set4_heap (x := .string ⟨#[]⟩) (y := .int .i64 0) (z := .slice none 0 0) (u := .int .i64 0) HT1.out)
    have HBW := Lib.hid (Ev.set4_below (x := .string ⟨#[]⟩) (y := .int .i64 0) (z := .slice none 0 0) (u := .int .i64 0) (Q := Y) H1.out (by have := HYE.out; omega))
    clear hi
    go_wp2_with fail
    refine bodyPost_ret (v := .tuple #[.agg #[.string ⟨#[]⟩, .int .i64 0, .slice none 0 0, .int .i64 0], .int .i64 (ie : Int)]) (Cd.results_ct Tryz.results14 _ _ Y 41 #[.string ⟨#[]⟩, .int .i64 0, .slice none 0 0, .int .i64 0] (0, 0) _ rfl HRW.out Tryz.underlying41 rfl HI.out _ rfl) rfl ?_
    exact ⟨HBW.out, .inl ⟨by rw [HE.out.1]; exact HE.out.2, by rw [HE.out.1]⟩⟩
end Go.Proofs.YtnlhacgihmelhaaGreatDoor
