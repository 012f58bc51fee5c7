/-
  Layer 13: the contracts of eval.Root and of all tasks.
  Layer 13: the contracts of eval's all, Eval and Tree.
  Layer 13: the contracts of eval.Eval and eval.Tree.
-/
import Derived.Test.YtepnofklmdofmaaGreatDoorEvJ
import Derived.Test.YtepnofklmdofmaaGreatDoorLowChF
import Derived.Test.YtepnofklmdofmaaGreatDoorLowCdN
section
namespace Go.Proofs.YtepnofklmdofmaaGreatDoor
open Go.RowKit

namespace Ev
/-- append(nil, l...) of int64s. -/
theorem lappend (w : World) (A : Option Addr) (xs : List Int) (c : Nat) (hl : Lies w w.heap.size A (icells xs)) (hn : xs.length ≤ 100000) (ty : TypeId) :
    ∃ v' w', (Builtin.append_ #[25, 25] ty #[.slice none 0 0, .slice A xs.length c]).run Tryz.prog w = .ok v' w' ∧ w'.ownsRow w.heap.size 2 1 v' xs.length (icells xs) ∧ Below w.heap.size w w' := by
  obtain ⟨i, hi, hz⟩ := Option.map_eq_some_iff.1 i64_info
  simp only [Prod.mk.injEq] at hz
  obtain ⟨z1, z2, z3⟩ := hz
  have hlen : (icells xs).length = xs.length := by unfold icells; simp
  have hown := World.ownsRow_nil w w.heap.size 2 1
  have hone : ∀ u ∈ icells xs, u.oneCell' = true := oneCells xs
  cases xs with
  | nil =>
    refine ⟨.slice none 0 0, w, ?_, hown, Below.refl _ _⟩
    cases A <;> simp [Builtin.append_, run_underlying (P := Tryz.prog) Tryz.underlying25, sizeOf, typeInfo, hi, Builtin.lenOf, Builtin.firstCells, loadCells, loadCellsFrom]
  | cons x xs =>
    obtain ⟨ad, rfl, _, hc⟩ := hl (by rw [hlen]; simp)
    obtain ⟨v', w', a, b, d, _⟩ := run_append_own_at (P := Tryz.prog) w w.heap.size 25 ty 2 i _ 1 8 Tryz.underlying25 hi z1 z2 z3 rfl (by omega) (.slice none 0 0) 0 [] hown ad (x :: xs).length c (icells (x :: xs)) (by rw [hlen]; omega) hc hone (by unfold maxLen; omega) (by omega) (Nat.le_refl _)
    refine ⟨v', w', a, ?_, ?_⟩
    · rw [Nat.zero_add, List.nil_append] at b
      exact b
    · exact (Below.refl _ _).grown d (Nat.le_refl _) (fun k hk => by simp [Value.ownBlock] at hk)
/-- append of a slice, told ahead, at a region's list. -/
theorem wpl_app {w w' : World} {ops : Array Oper} {rest : List Oper} {oo : Oper} {a : Act} {Q : Exit → Act → World → Prop} {v u v' : Value} {ty : TypeId} (hgd : oo.guard = none) (s x : Operand)
    (hop : oo.op = .call { callee := .builtin .append, args := #[s, x], argTypes := #[25, 25] } ∧ oo.type = ty) (hs : a.eval s = v) (hx : a.eval x = u)
    (hr : (Builtin.append_ #[25, 25] ty #[v, u]).run Tryz.prog w = .ok v' w') (h : wpList Tryz.prog ops Q rest (a.put oo.dst v') w') : wpList Tryz.prog ops Q (oo :: rest) a w := by
  obtain ⟨hop, rfl⟩ := hop
  refine wpList_plain hgd fun K' hK' => ?_
  unfold Oper.wp
  simp [execOp, hop, resolve, invoke, builtin, hs, hx, hr, Result.andThen]
  exact hK' _ _ h
def rootE (p : List Cd.FnV) (n : Nat) (fuel : Int) : Int := if Ck.inp p n ≠ 0 then (Ck.inp p n : Int) else if fuel < 0 ∨ 65536 < fuel then 2 else 0
def RootP (p : List Cd.FnV) (xs : List Int) (fuel : Int) (w : World) (e : Ending) (w' : World) : Prop :=
  Below w.heap.size w w' ∧ ((rootE p xs.length fuel ≠ 0 ∧ e = .returned (.tuple #[.agg #[.string ⟨#[]⟩, .int .i64 0, .slice none 0 0, .int .i64 0], .int .i64 (rootE p xs.length fuel)])) ∨
    (rootE p xs.length fuel = 0 ∧ ∃ A c, e = .returned (.tuple #[.agg #[.string ⟨#[]⟩, .int .i64 0, .slice A xs.length c, .int .i64 fuel], .int .i64 0]) ∧ Lies w' w'.heap.size A (icells xs) ∧ (xs ≠ [] → ∀ p, A = some p → w.heap.size ≤ p.block)))
theorem set4_heap {w : World} {Q : Nat} {a b c d x y z u : Value} {T : TypeId} (h : w.heap[Q]? = some (.cells #[a, b, c, d] T (0, 0))) :
    ((((w.setCell ⟨Q, 0, none⟩ x).setCell ⟨Q, 1, none⟩ y).setCell ⟨Q, 2, none⟩ z).setCell ⟨Q, 3, none⟩ u).heap[Q]? = some (.cells #[x, y, z, u] T (0, 0)) := by
  rw [heap_setCell_same _ _ _ _ _ _ (heap_setCell_same _ _ _ _ _ _ (heap_setCell_same _ _ _ _ _ _ (heap_setCell_same _ _ _ _ _ _ h)))]
  rfl
theorem set4_below {lo : Nat} {w w' : World} {Q : Nat} {x y z u : Value} (h : Below lo w w') (hQ : lo ≤ Q) : Below lo w ((((w'.setCell ⟨Q, 0, none⟩ x).setCell ⟨Q, 1, none⟩ y).setCell ⟨Q, 2, none⟩ z).setCell ⟨Q, 3, none⟩ u) :=
  (((h.setCell hQ _).setCell hQ _).setCell hQ _).setCell hQ _
theorem task_size : (Tryz.prog.info? 41).map (·.size) = some 4 := by kernel_rfl
end Ev

set_option maxHeartbeats 2000000 in
set_option maxRecDepth 20000 in
theorem eRoot (A : Option Addr) (c : Nat) (l : List Cd.Fm) (w : World) (hR : ∀ m ∈ l, m.f.Rng) (hn : l.length ≤ maxLen) (hP : Cd.Prog w w.heap.size A l) (hL : Ck.Laid w) (A2 : Option Addr) (xs : List Int) (c2 : Nat) (hl : Lies w w.heap.size A2 (icells xs)) (hx : xs.length ≤ 100000) (fuel : Int) :
    Calls Tryz.prog 12 #[.agg #[.slice A l.length c], .slice A2 xs.length c2, .int .i64 fuel] w (Ev.RootP (Cd.fns l) xs fuel w) := by
  obtain ⟨V, hV⟩ : ∃ V, V = w.alloc (.cells #[.slice A l.length c] 24) := ⟨_, rfl⟩
  obtain ⟨W, hW⟩ : ∃ W, W = V.alloc (.cells #[.string ⟨#[]⟩, .int .i64 0, .slice none 0 0, .int .i64 0] 41) := ⟨_, rfl⟩
  have hVs : V.heap.size = w.heap.size + 1 := by rw [hV]; simp
  have hb1 : Below w.heap.size w V := by rw [hV]; exact Cd.fn1 _ _ _
  have hb2 : Below V.heap.size V W := by rw [hW]; exact Cd.fn1 _ _ _
  have hb : Below w.heap.size w W := hb1.trans (hb2.mono hb1.size)
  have p0 : W.cell? ⟨w.heap.size, 0, none⟩ = some (.slice A l.length c) := cell_of_row _ _ 0 _ _ _ ((hb2.block w.heap.size (by omega)).trans (by rw [hV]; exact heap_alloc_new w _))
  have hT : W.heap[w.heap.size + 1]? = some (.cells #[.string ⟨#[]⟩, .int .i64 0, .slice none 0 0, .int .i64 0] 41 (0, 0)) := by rw [← hVs, hW]; exact heap_alloc_new V _
  have HT := Lib.hid hT
  have HB := Lib.hid hb
  have HLI := Lib.hid ((hl.below hb).mono hb.size)
  have HIN := Lib.hid (kInput A c l W hR hn ((hP.below hb).mono hb.size) (hL.later hb) A2 xs.length c2 (by unfold maxLen; omega))
  have HX := Lib.hid hx
  have HI : Hid ((Tryz.prog.info? 41).map (·.size) = some 4) := Ev.task_size
  have HRE : Hid (Ev.rootE (Cd.fns l) xs.length fuel = if Ck.inp (Cd.fns l) xs.length ≠ 0 then (Ck.inp (Cd.fns l) xs.length : Int) else if fuel < 0 ∨ 65536 < fuel then 2 else 0) := rfl
  clear hR hn hP hL hl hx hb1 hb2 hb hT
  go_enter Tryz.func12, Tryz.ntmps12
  go_upto_region 1 with fail
  rw [← hV, ← hVs, ← hW, hVs]
  clear hV hW hVs
  obtain ⟨Z, hZe⟩ : ∃ Z, Z = w.heap.size := ⟨_, rfl⟩
  obtain ⟨Y, hYe⟩ : ∃ Y, Y = w.heap.size + 1 := ⟨_, rfl⟩
  rw [← hYe] at HT ⊢
  rw [← hZe] at p0 ⊢
  have HZE := Lib.hid hZe
  have HYE := Lib.hid hYe
  clear hZe hYe
  generalize Ck.inp (Cd.fns l) xs.length = ie at HIN HRE
  go_wp2_with fail
  refine HIN.out.mono ?_
  rintro e w1 ⟨rfl, hb1⟩
  have H1 := Lib.hid (HB.out.trans (hb1.mono HB.out.size))
  have hY1 := (hb1.block Y (Cd.ltH HT.out)).trans HT.out
  have HT1 := Lib.hid hY1
  have HLI1 := Lib.hid ((HLI.out.below hb1).mono hb1.size)
  have HW1 : Hid (w.heap.size ≤ w1.heap.size ∧ Y < w1.heap.size) := ⟨H1.out.size, Cd.ltH hY1⟩
  clear hb1 hY1 p0 HIN HT HLI
  have y0 : w1.cell? ⟨Y, 0, none⟩ = some (.string ⟨#[]⟩) := cell_of_row _ _ 0 _ _ _ HT1.out
  have y1 : w1.cell? ⟨Y, 1, none⟩ = some (.int .i64 0) := cell_of_row _ _ 1 _ _ _ HT1.out
  have y2 : w1.cell? ⟨Y, 2, none⟩ = some (.slice none 0 0) := cell_of_row _ _ 2 _ _ _ HT1.out
  have y3 : w1.cell? ⟨Y, 3, none⟩ = some (.int .i64 0) := cell_of_row _ _ 3 _ _ _ HT1.out
  have yf0 := frozen_of_row _ _ 0 _ _ HT1.out
  have yf1 := frozen_of_row _ _ 1 _ _ HT1.out
  have yf2 := frozen_of_row _ _ 2 _ _ HT1.out
  have yf3 := frozen_of_row _ _ 3 _ _ HT1.out
  by_cases hi : ie = 0
  · subst hi
    by_cases hf : fuel < 0 ∨ 65536 < fuel
    · have HE : Hid (Ev.rootE (Cd.fns l) xs.length fuel = 2) := by show _ = _; rw [HRE.out, if_neg (by simp), if_pos hf]
      have HRW := Lib.hid (Ev.set4_heap (x := .string ⟨#[]⟩) (y := .int .i64 0) (z := .slice none 0 0) (u := .int .i64 0) HT1.out)
      have HBW := Lib.hid (Ev.set4_below (x := .string ⟨#[]⟩) (y := .int .i64 0) (z := .slice none 0 0) (u := .int .i64 0) (Q := Y) H1.out (by have := HYE.out; omega))
      by_cases hf0 : fuel < 0
      · clear hf
        go_wp2_with fail
        refine bodyPost_ret (v := .tuple #[.agg #[.string ⟨#[]⟩, .int .i64 0, .slice none 0 0, .int .i64 0], .int .i64 2]) (Cd.results_ct Tryz.results12 _ _ Y 41 #[.string ⟨#[]⟩, .int .i64 0, .slice none 0 0, .int .i64 0] (0, 0) _ rfl HRW.out Tryz.underlying41 rfl HI.out _ rfl) rfl ?_
        exact ⟨HBW.out, .inl ⟨by rw [HE.out]; decide, by rw [HE.out]⟩⟩
      · have hf1 : 65536 < fuel := by omega
        clear hf
        go_wp2_with fail
        refine bodyPost_ret (v := .tuple #[.agg #[.string ⟨#[]⟩, .int .i64 0, .slice none 0 0, .int .i64 0], .int .i64 2]) (Cd.results_ct Tryz.results12 _ _ Y 41 #[.string ⟨#[]⟩, .int .i64 0, .slice none 0 0, .int .i64 0] (0, 0) _ rfl HRW.out Tryz.underlying41 rfl HI.out _ rfl) rfl ?_
        exact ⟨HBW.out, .inl ⟨by rw [HE.out]; decide, by rw [HE.out]⟩⟩
    · have HE : Hid (Ev.rootE (Cd.fns l) xs.length fuel = 0) := by show _ = _; rw [HRE.out, if_neg (by simp), if_neg hf]
      have hf0 : ¬ fuel < 0 := fun h => hf (.inl h)
      have hf1 : ¬ 65536 < fuel := fun h => hf (.inr h)
      clear hf
      have HAP := Lib.hid (fun ty => Ev.lappend w1 A2 xs c2 HLI1.out HX.out ty)
      obtain ⟨v', w2, hap, hown, hb2⟩ := HAP.out 25
      have HRUN : Hid ((Builtin.append_ #[25, 25] 25 #[.slice none 0 0, .slice A2 xs.length c2]).run Tryz.prog w1 = .ok v' w2) := hap
      obtain ⟨A3, c3, rfl⟩ := Ev.own_slice hown
      have hY2 := (hb2.block Y HW1.out.2).trans HT1.out
      have y0 : w2.cell? ⟨Y, 0, none⟩ = some (.string ⟨#[]⟩) := cell_of_row _ _ 0 _ _ _ hY2
      have y1 : w2.cell? ⟨Y, 1, none⟩ = some (.int .i64 0) := cell_of_row _ _ 1 _ _ _ hY2
      have y2 : w2.cell? ⟨Y, 2, none⟩ = some (.slice none 0 0) := cell_of_row _ _ 2 _ _ _ hY2
      have y3 : w2.cell? ⟨Y, 3, none⟩ = some (.int .i64 0) := cell_of_row _ _ 3 _ _ _ hY2
      have yf0 := frozen_of_row _ _ 0 _ _ hY2
      have yf1 := frozen_of_row _ _ 1 _ _ hY2
      have yf2 := frozen_of_row _ _ 2 _ _ hY2
      have yf3 := frozen_of_row _ _ 3 _ _ hY2
      have HRW := Lib.hid (Ev.set4_heap (x := .string ⟨#[]⟩) (y := .int .i64 0) (z := .slice A3 xs.length c3) (u := .int .i64 fuel) hY2)
      have HFIN : Hid (Ev.RootP (Cd.fns l) xs fuel w (.returned (.tuple #[.agg #[.string ⟨#[]⟩, .int .i64 0, .slice A3 xs.length c3, .int .i64 fuel], .int .i64 0])) ((((w2.setCell ⟨Y, 0, none⟩ (.string ⟨#[]⟩)).setCell ⟨Y, 1, none⟩ (.int .i64 0)).setCell ⟨Y, 2, none⟩ (.slice A3 xs.length c3)).setCell ⟨Y, 3, none⟩ (.int .i64 fuel))) := by
        have hYw : w.heap.size ≤ Y := by have := HYE.out; omega
        have hbw : Below w.heap.size w w2 := H1.out.trans (hb2.mono H1.out.size)
        have hk : ∀ i, i ≠ Y → ((((w2.setCell ⟨Y, 0, none⟩ (.string ⟨#[]⟩)).setCell ⟨Y, 1, none⟩ (.int .i64 0)).setCell ⟨Y, 2, none⟩ (.slice A3 xs.length c3)).setCell ⟨Y, 3, none⟩ (.int .i64 fuel)).heap[i]? = w2.heap[i]? := fun i hi =>
          (Below.heap_setCell _ _ _ _ hi).trans ((Below.heap_setCell _ _ _ _ hi).trans ((Below.heap_setCell _ _ _ _ hi).trans (Below.heap_setCell _ _ _ _ hi)))
        have hrow := Gm.ownsKeep hown fun i hi => hk i (fun e => by have := (hown.lt i hi).1; have := HW1.out.2; omega)
        refine ⟨Ev.set4_below hbw hYw, .inr ⟨HE.out, A3, c3, rfl, Cd.rowLies hrow, fun _ p hp => ?_⟩⟩
        subst hp
        have := (hown.lt p.block rfl).1
        have := HW1.out.1
        omega
      clear hap hown hb2 hY2 HAP
      go_wp2_with (refine Cd.at_app rfl ?_; refine Ev.wpl_app rfl _ _ ⟨rfl, rfl⟩ rfl rfl HRUN.out ?_)
      refine bodyPost_ret (v := .tuple #[.agg #[.string ⟨#[]⟩, .int .i64 0, .slice A3 xs.length c3, .int .i64 fuel], .int .i64 0]) (Cd.results_ct Tryz.results12 _ _ Y 41 #[.string ⟨#[]⟩, .int .i64 0, .slice A3 xs.length c3, .int .i64 fuel] (0, 0) _ rfl HRW.out Tryz.underlying41 rfl HI.out _ rfl) rfl ?_
      exact HFIN.out
  · have hi1 : ((ie : Int) != 0) = true := by simpa using hi
    have hi2 : ((ie : Int) == 0) = false := by simpa using hi
    have HE : Hid (Ev.rootE (Cd.fns l) xs.length fuel = (ie : Int) ∧ (ie : Int) ≠ 0) := ⟨by rw [HRE.out, if_pos hi], by omega⟩
    have HRW := Lib.hid (Ev.set4_heap (x := .string ⟨#[]⟩) (y := .int .i64 0) (z := .slice none 0 0) (u := .int .i64 0) HT1.out)
    have HBW := Lib.hid (Ev.set4_below (x := .string ⟨#[]⟩) (y := .int .i64 0) (z := .slice none 0 0) (u := .int .i64 0) (Q := Y) H1.out (by have := HYE.out; omega))
    clear hi
    go_wp2_with fail
    refine bodyPost_ret (v := .tuple #[.agg #[.string ⟨#[]⟩, .int .i64 0, .slice none 0 0, .int .i64 0], .int .i64 (ie : Int)]) (Cd.results_ct Tryz.results12 _ _ Y 41 #[.string ⟨#[]⟩, .int .i64 0, .slice none 0 0, .int .i64 0] (0, 0) _ rfl HRW.out Tryz.underlying41 rfl HI.out _ rfl) rfl ?_
    exact ⟨HBW.out, .inl ⟨by rw [HE.out.1]; exact HE.out.2, by rw [HE.out.1]⟩⟩
end Go.Proofs.YtepnofklmdofmaaGreatDoor
end

section
namespace Go.Proofs.YtepnofklmdofmaaGreatDoor
open Go.RowKit

namespace Ev
def root (xs : List Int) (fuel : Int) : Tsk := ⟨⟨#[]⟩, 0, xs, fuel.toNat⟩
/-- All tasks lie at a slice. -/
structure DRow (w : World) (A : Option Addr) (ms : List Dm) : Prop where
  li : Lies w w.heap.size A (dcells ms)
  args : ∀ m ∈ ms, Lies w w.heap.size m.A (icells m.d.t.args)
theorem DRow.below {w w' : World} {A : Option Addr} {ms : List Dm} (h : DRow w A ms) (hb : Below w.heap.size w w') : DRow w' A ms := ⟨(h.li.below hb).mono hb.size, fun m hm => ((h.args m hm).below hb).mono hb.size⟩
theorem dlies {w : World} {A : Option Addr} {n c : Nat} {ms : List Dm} (h : w.ownsRow 0 96 7 (.slice A n c) n (dcells ms)) : Lies w w.heap.size A (dcells ms) := fun hp => by
  rcases h.2 with ⟨e, h0⟩ | ⟨g, cap, cur, e1, hg, hh, _⟩
  · have := h.1
    rw [h0] at this
    omega
  · obtain rfl : A = some ⟨g, 0, none⟩ := by injection e1
    exact ⟨⟨g, 0, none⟩, rfl, (h.lt g rfl).2, fun j u hu => h.cells (g := g) rfl j u hu⟩
def AllP (p : List Cd.FnV) (xs : List Int) (fuel : Int) (w : World) (e : Ending) (w' : World) : Prop :=
  Below w.heap.size w w' ∧ ((rootE p xs.length fuel ≠ 0 ∧ e = .returned (.tuple #[.slice none 0 0, .int .i64 (rootE p xs.length fuel)])) ∨
    (rootE p xs.length fuel = 0 ∧ ∃ (A : Option Addr) (c : Nat) (ms : List Dm), e = .returned (.tuple #[.slice A ms.length c, .int .i64 0]) ∧ ms.map Dm.d = (doT p (root xs fuel)).2 ∧ DRow w' A ms))
theorem rootE_zero {p : List Cd.FnV} {n : Nat} {fuel : Int} (h : rootE p n fuel = 0) : (Ck.chk p).1 = 0 ∧ (p[0]?.getD default).args = (n : Int) ∧ 0 ≤ fuel ∧ fuel ≤ 65536 := by
  unfold rootE at h
  split at h
  · rename_i h0
    exact absurd (by omega) h0
  · rename_i h0
    have h1 : Ck.inp p n = 0 := by omega
    unfold Ck.inp at h1
    split at h
    · cases (show (2 : Int) = 0 from h)
    · split at h1
      · rename_i h2
        split at h1
        · rename_i h3
          exact ⟨h2, h3, by omega, by omega⟩
        · cases (show (114 : Nat) = 0 from h1)
      · rename_i h2
        exact absurd h1 h2
theorem root_ok {p : List Cd.FnV} {xs : List Int} {fuel : Int} (h : rootE p xs.length fuel = 0) : TOk p (root xs fuel) := by
  obtain ⟨h1, h2, h3, h4⟩ := rootE_zero h
  exact ⟨⟨0, rfl, (Ck.chk_some h1).1⟩, h2.symm, (by show Br.may ⟨#[]⟩ = true; decide), by show fuel.toNat ≤ 65536; omega⟩
theorem set3_heap {w : World} {Q : Nat} {a b c x y z : Value} {T : TypeId} (h : w.heap[Q]? = some (.cells #[a, b, c] T (0, 0))) :
    (((w.setCell ⟨Q, 0, none⟩ x).setCell ⟨Q, 1, none⟩ y).setCell ⟨Q, 2, none⟩ z).heap[Q]? = some (.cells #[x, y, z] T (0, 0)) := by
  rw [heap_setCell_same _ _ _ _ _ _ (heap_setCell_same _ _ _ _ _ _ (heap_setCell_same _ _ _ _ _ _ h))]
  rfl
theorem cell_set3 {w : World} {a : Addr} {v : Value} (Q : Nat) (x y z : Value) (ha : a.block ≠ Q) (h : w.cell? a = some v) : (((w.setCell ⟨Q, 0, none⟩ x).setCell ⟨Q, 1, none⟩ y).setCell ⟨Q, 2, none⟩ z).cell? a = some v :=
  (World.cell?_of_block (w := w) ((Below.heap_setCell _ _ _ _ ha).trans ((Below.heap_setCell _ _ _ _ ha).trans (Below.heap_setCell _ _ _ _ ha)))).trans h
/-- The tree is made: at X, its map at M. -/
structure MadeT (l : List Cd.Fm) (P : Option Addr) (cp : Nat) (W : World) (X M : Nat) (wx : World) : Prop where
  obj : wx.heap[X]? = some (.cells #[.slice P l.length cp, .map (some M), .slice none 0 0] 130 (0, 0))
  map : Gm.MapF 5 wx M (mF 7) 7
  xo : W.heap.size ≤ X
  ne : M ≠ X
  bel : Below W.heap.size W wx
theorem MadeT.first {l : List Cd.Fm} {P : Option Addr} {cp : Nat} {W U w4 : World} {M : Nat} (hs : W.heap.size < U.heap.size) (hms : MS U M 7 w4) (hb : Below W.heap.size W w4) {a b c : Value} (hq : w4.heap[W.heap.size]? = some (.cells #[a, b, c] 130 (0, 0))) :
    MadeT l P cp W W.heap.size M (((w4.setCell ⟨W.heap.size, 0, none⟩ (.slice P l.length cp)).setCell ⟨W.heap.size, 1, none⟩ (.map (some M))).setCell ⟨W.heap.size, 2, none⟩ (.slice none 0 0)) := by
  have hne : M ≠ W.heap.size := by have := hms.lo; omega
  exact ⟨set3_heap hq, hms.m.of_block ((Below.heap_setCell _ _ _ _ hne).trans ((Below.heap_setCell _ _ _ _ hne).trans (Below.heap_setCell _ _ _ _ hne))), Nat.le_refl _, hne, ((hb.setCell (Nat.le_refl _) _).setCell (Nat.le_refl _) _).setCell (Nat.le_refl _) _⟩
theorem MadeT.last {l : List Cd.Fm} {P : Option Addr} {cp : Nat} {W U w4 : World} {M : Nat} (hms : MS U M 7 w4) (hb : Below W.heap.size W w4) :
    MadeT l P cp W w4.heap.size M (w4.alloc (.cells #[.slice P l.length cp, .map (some M), .slice none 0 0] 130)) :=
  ⟨heap_alloc_new _ _, hms.m.below (Cd.fn1 _ _ _), hb.size, by have := hms.m.lt; omega, hb.alloc hb.size _⟩
end Ev

set_option maxHeartbeats 4000000 in
set_option maxRecDepth 20000 in
theorem eAll (P : Option Addr) (cp : Nat) (l : List Cd.Fm) (w : World) (hR : ∀ m ∈ l, m.f.Rng) (hn : l.length ≤ maxLen) (hP : Cd.Prog w w.heap.size P l) (hL : Ck.Laid w) (A2 : Option Addr) (xs : List Int) (c2 : Nat) (hl : Lies w w.heap.size A2 (icells xs)) (hx : xs.length ≤ 100000) (fuel : Int) :
    Calls Tryz.prog 34 #[.agg #[.slice P l.length cp], .slice A2 xs.length c2, .int .i64 fuel] w (Ev.AllP (Cd.fns l) xs fuel w) := by
  obtain ⟨V, hV⟩ : ∃ V, V = w.alloc (.cells #[.slice P l.length cp] 24) := ⟨_, rfl⟩
  have hb1 : Below w.heap.size w V := by rw [hV]; exact Cd.fn1 _ _ _
  have HX : Hid (Cd.PBlk V w.heap.size (.slice P l.length cp)) := by show V.heap[_]? = _; rw [hV]; exact heap_alloc_new w _
  have p0 := HX.out.c0
  have HB := Lib.hid hb1
  have HRO := Lib.hid (eRoot P cp l V hR hn ((hP.below hb1).mono hb1.size) (hL.later hb1) A2 xs c2 ((hl.below hb1).mono hb1.size) hx fuel)
  have HPW := Lib.hid hP
  have hVs : Hid (V.heap.size = w.heap.size + 1) := by show _ = _; rw [hV]; simp
  clear hb1 hR hn hP hL hl hx
  go_enter Tryz.func34, Tryz.ntmps34
  go_upto_region 1 with fail
  rw [← hV]
  clear hV
  obtain ⟨Z, hZe⟩ : ∃ Z, Z = w.heap.size := ⟨_, rfl⟩
  rw [← hZe] at HX p0 ⊢
  have HZE := Lib.hid hZe
  clear hZe
  go_wp2_with fail
  refine HRO.out.mono ?_
  rintro e w1 ⟨hb1, ⟨hre, rfl⟩ | ⟨hre, A3, c3, rfl, hli, hfr⟩⟩
  · have H1 := Lib.hid (HB.out.trans (hb1.mono HB.out.size))
    have HE := Lib.hid hre
    have e1 : (Ev.rootE (Cd.fns l) xs.length fuel == 0) = false := by simpa using hre
    have e2 : (Ev.rootE (Cd.fns l) xs.length fuel != 0) = true := by simpa using hre
    generalize hE : Ev.rootE (Cd.fns l) xs.length fuel = E at e1 e2 HE ⊢
    have HQ : Hid (Ev.AllP (Cd.fns l) xs fuel w (.returned (.tuple #[.slice none 0 0, .int .i64 E])) (w1.alloc (.cells #[.string ⟨#[]⟩, .int .i64 0, .slice none 0 0, .int .i64 0] 41))) := ⟨H1.out.alloc H1.out.size _, .inl ⟨by rw [hE]; exact HE.out, by rw [hE]⟩⟩
    clear hb1 hre hE p0
    go_wp2_with fail
    refine bodyPost_ret (results_tmp2 rfl _ _ _) rfl ?_
    exact HQ.out
  · obtain ⟨W1, hW1⟩ : ∃ W, W = w1.alloc (.cells #[.string ⟨#[]⟩, .int .i64 0, .slice A3 xs.length c3, .int .i64 fuel] 41) := ⟨_, rfl⟩
    have hbw : Below w1.heap.size w1 W1 := by rw [hW1]; exact Cd.fn1 _ _ _
    have hC : W1.heap[w1.heap.size]? = some (.cells #[.string ⟨#[]⟩, .int .i64 0, .slice A3 xs.length c3, .int .i64 fuel] 41 (0, 0)) := by rw [hW1]; exact heap_alloc_new w1 _
    have HC := Lib.hid hC
    have H1 : Hid (Below w.heap.size w W1) := (HB.out.trans (hb1.mono HB.out.size)).trans (hbw.mono (Nat.le_trans HB.out.size hb1.size))
    have HX1 : Hid (Cd.PBlk W1 Z (.slice P l.length cp)) := (hbw.block Z (Nat.lt_of_lt_of_le HX.out.lt hb1.size)).trans ((hb1.block Z HX.out.lt).trans HX.out)
    have HLI := Lib.hid ((hli.below hbw).mono hbw.size)
    have HE := Lib.hid hre
    have HMK : Hid (∀ U, Below W1.heap.size W1 U → Calls Tryz.prog 51 #[] U fun e w' => ∃ B, e = .returned (.map (some B)) ∧ Ev.MS U B 7 w' ∧ Below W1.heap.size W1 w' ∧ Below U.heap.size U w') := fun U hU => (emakes U).mono fun e w' ⟨B, h1, h2⟩ => ⟨B, h1, h2, hU.trans (h2.bel.mono hU.size), h2.bel⟩
    clear hb1 hre hfr hbw hC p0 HRO
    go_upto_region 2 with fail
    rw [← hW1]
    clear hW1
    generalize w1.heap.size = C at HC ⊢
    have p0 := HX1.out.c0
    have HZL : Hid (Z < W1.heap.size) := HX1.out.lt
    go_upto_region 4 with fail
    go_cut [10] (fun s10 wx => ∃ X M, s10 = .pointer (some ⟨X, 0, none⟩) ∧ Hid (Ev.MadeT l P cp W1 X M wx))
    case first =>
      go_region_held3 (fun w' => w'.cell? ⟨Z, 0, none⟩ = some (.slice P l.length cp))
        (first
          | exact p0 | assumption | exact Ev.cell_alloc _ p0 | exact Ev.cell_alloc _ S4 | exact Ev.cell_set3 W1.heap.size _ _ _ (Nat.ne_of_lt HZL.out) S4)
        (first
          | (with_reducible refine (HMK.out _ (by first | exact (Below.refl _ _).drew | exact (Below.refl _ _).drew.alloc (Nat.le_refl _) _ | exact ((Below.refl _ _).alloc (Nat.le_refl _) _).drew)).mono ?_
             rintro e w4 ⟨M, rfl, hms, hb4, hbu⟩
             have S4 : w4.cell? ⟨Z, 0, none⟩ = some (.slice P l.length cp) := Ev.cell_below hb4 p0
             try have hQ4 : w4.heap[W1.heap.size]? = some (.cells #[.slice none 0 0, .map none, .slice none 0 0] 130 (0, 0)) := (hbu.block W1.heap.size (by simp)).trans (heap_alloc_new _ _)
             try have q0 : w4.cell? ⟨W1.heap.size, 0, none⟩ = some (.slice none 0 0) := cell_of_row _ _ 0 _ _ _ hQ4
             try have q1 : w4.cell? ⟨W1.heap.size, 1, none⟩ = some (.map none) := cell_of_row _ _ 1 _ _ _ hQ4
             try have q2 : w4.cell? ⟨W1.heap.size, 2, none⟩ = some (.slice none 0 0) := cell_of_row _ _ 2 _ _ _ hQ4
             try have qf0 := frozen_of_row _ _ 0 _ _ hQ4
             try have qf1 := frozen_of_row _ _ 1 _ _ hQ4
             try have qf2 := frozen_of_row _ _ 2 _ _ hQ4))
      all_goals
        go_wp2_with fail
        go_meet
        case rel =>
          first
            | exact ⟨_, M, rfl, Ev.MadeT.first (by simp) hms hb4 hQ4⟩
            | exact ⟨_, M, rfl, Ev.MadeT.last hms hb4⟩
    case rest =>
      rename World => wx
      obtain ⟨X, M, rfl, HMT⟩ := hcut
      have hbx := HMT.out.bel
      have hW1s := H1.out.size
      have hxo := HMT.out.xo
      have k0 : wx.cell? ⟨C, 0, none⟩ = some (.string ⟨#[]⟩) := Ev.cell_below hbx (cell_of_row _ _ 0 _ _ _ HC.out)
      have k1 : wx.cell? ⟨C, 1, none⟩ = some (.int .i64 0) := Ev.cell_below hbx (cell_of_row _ _ 1 _ _ _ HC.out)
      have k2 : wx.cell? ⟨C, 2, none⟩ = some (.slice A3 xs.length c3) := Ev.cell_below hbx (cell_of_row _ _ 2 _ _ _ HC.out)
      have k3 : wx.cell? ⟨C, 3, none⟩ = some (.int .i64 fuel) := Ev.cell_below hbx (cell_of_row _ _ 3 _ _ _ HC.out)
      obtain ⟨hchk, -, hf0, hf1⟩ := Ev.rootE_zero HE.out
      have hTr : Ev.Tr X (.slice P l.length cp) (.map (some M)) (.slice none 0 0) [] wx := ⟨HMT.out.obj, ⟨rfl, .inl ⟨rfl, rfl⟩⟩, by simp [Value.ownBlock]⟩
      have hto : ∀ i, i ≠ X → Ev.TOff X (.slice none 0 0) i := fun i hi => ⟨hi, by simp [Value.ownBlock]⟩
      have hEnv : Ev.Env l P M (Ev.mF 7) (Ev.TOff X (.slice none 0 0)) wx := by
        refine ⟨⟨w.heap.size, Nat.le_trans hW1s hbx.size, (HPW.out.below H1.out).below (hbx.mono hW1s), fun i hi => hto i (by omega)⟩, HMT.out.map, hto M HMT.out.ne⟩
      have hAO : Ev.AOk (fun i => Ev.TOff X (.slice none 0 0) i ∧ True) wx A3 xs := by
        refine ⟨(HLI.out.below hbx).mono hbx.size, fun hnn p hp => ⟨hto _ ?_, trivial⟩⟩
        obtain ⟨ad, e, hb, _⟩ := HLI.out (by cases xs with | nil => exact absurd rfl hnn | cons => simp [icells])
        rw [hp] at e
        cases e
        omega
      have hrun := Ev.root_ok HE.out
      have HRUN := Lib.hid (erun_all (P := P) (cp := cp) (M := M) (Ev.good_of hchk) (fuel.toNat + 1) (fun _ => True) X (.slice none 0 0) [] (Ev.root xs fuel) A3 c3 wx (Nat.lt_succ_self _) hrun hTr hEnv (fun m hm => by simp at hm) hAO (fun _ _ => trivial) (by show 0 + fuel.toNat + 1 ≤ 70000; omega))
      have hft : ((fuel.toNat : Nat) : Int) = fuel := by omega
      have HRUN2 : Hid (Calls Tryz.prog 52 #[.pointer (some ⟨X, 0, none⟩), .agg #[.string ⟨#[]⟩, .int .i64 0, .slice A3 xs.length c3, .int .i64 fuel]] wx (Ev.RunP (Cd.fns l) (fun _ => True) X (.slice P l.length cp) (.map (some M)) (.slice none 0 0) [] (Ev.root xs fuel) wx)) := by
        have h := HRUN.out
        unfold Ev.Tsk.val at h
        rw [show ((Ev.root xs fuel).fuel : Int) = fuel from hft] at h
        exact h
      have HBX : Hid (Below w.heap.size w wx ∧ w.heap.size ≤ X) := ⟨H1.out.trans (hbx.mono hW1s), Nat.le_trans hW1s hxo⟩
      clear hchk hf0 hf1 hTr hto hEnv hAO hrun HRUN hft hbx hW1s hxo HMT HLI HMK
      go_wp2_with fail
      refine HRUN2.out.mono ?_
      rintro e w6 ⟨rfl, v', ms, hTr6, hmap, hArgs6, hmv6⟩
      rw [List.nil_append] at hTr6 hArgs6
      obtain ⟨A6, c6, hv6⟩ := Ev.own_slice hTr6.row
      subst hv6
      have x2 := hTr6.x2
      have HQ : Hid (Ev.AllP (Cd.fns l) xs fuel w (.returned (.tuple #[.slice A6 ms.length c6, .int .i64 0])) w6) := by
        refine ⟨HBX.out.1.trans ⟨hmv6.os, hmv6.tape, hmv6.output, hmv6.size, fun i hi => hmv6.block i (Nat.lt_of_lt_of_le hi HBX.out.1.size) ⟨by have := HBX.out.2; omega, by simp [Value.ownBlock]⟩⟩, .inr ⟨HE.out, A6, c6, ms, rfl, hmap, Ev.dlies hTr6.row, fun m hm => (hArgs6 m hm).li⟩⟩
      clear hTr6 hmap hArgs6 hmv6 k0 k1 k2 k3
      go_wp2_with fail
      refine bodyPost_ret (results_tmp2 rfl _ _ _) rfl ?_
      exact HQ.out
end Go.Proofs.YtepnofklmdofmaaGreatDoor
end

section
namespace Go.Proofs.YtepnofklmdofmaaGreatDoor
open Go.RowKit

namespace Ev
def evR (p : List Cd.FnV) (xs : List Int) (fuel : Int) : Res := if rootE p xs.length fuel = 0 then (doT p (root xs fuel)).1 else ⟨0, 0⟩
def EvalP (p : List Cd.FnV) (xs : List Int) (fuel : Int) (w : World) (e : Ending) (w' : World) : Prop :=
  e = .returned (.tuple #[.agg #[.int .i64 (evR p xs fuel).val, .int .i64 (evR p xs fuel).err], .int .i64 (rootE p xs.length fuel)]) ∧ Below w.heap.size w w'
def treeE (p : List Cd.FnV) (xs : List Int) (fuel most : Int) : Int := if rootE p xs.length fuel ≠ 0 then rootE p xs.length fuel else if most < ((doT p (root xs fuel)).2.length : Int) then 134 else 0
def TreeP (p : List Cd.FnV) (xs : List Int) (fuel most : Int) (w : World) (e : Ending) (w' : World) : Prop :=
  Below w.heap.size w w' ∧ ((treeE p xs fuel most ≠ 0 ∧ e = .returned (.tuple #[.slice none 0 0, .int .i64 (treeE p xs fuel most)])) ∨
    (treeE p xs fuel most = 0 ∧ rootE p xs.length fuel = 0 ∧ ∃ (A : Option Addr) (c : Nat) (ms : List Dm), e = .returned (.tuple #[.slice A ms.length c, .int .i64 0]) ∧ ms.map Dm.d = (doT p (root xs fuel)).2 ∧ DRow w' A ms))
/-- The cells of one task that is told, as a walk asks for them. -/
theorem d_at {w : World} {B : Nat} {A : Option Addr} {l : List Dm} (h : Lies w B A (dcells l)) {j : Nat} (hj : j < l.length) :
    ∃ ad : Addr, A = some ad ∧ ad.block < B ∧ w.cell? (ad.add (j * 7)) = some (.string l[j].d.t.path) ∧ ∀ i u, i ≠ 0 → (l[j].cells)[i]? = some u → w.cell? ⟨(ad.add (j * 7)).block, (ad.add (j * 7)).off + i, none⟩ = some u := by
  obtain ⟨ad, e, hb, hc⟩ := h (by rw [dcells_len]; omega)
  have hx : ∀ i u, (l[j].cells)[i]? = some u → w.cell? ((ad.add (j * 7)).add i) = some u := fun i u hu => by
    have hi : i < 7 := by
      have := (List.getElem?_eq_some_iff.1 hu).1
      simpa [Dm.cells] using this
    have hd : (dcells l)[j * 7 + i]? = some u := by
      have e2 : l = l.take j ++ [l[j]] ++ l.drop (j + 1) := by
        rw [List.append_assoc]
        show l = l.take j ++ l[j] :: l.drop (j + 1)
        rw [← List.drop_eq_getElem_cons hj, List.take_append_drop]
      have := dcells_at (l.take j) (l.drop (j + 1)) l[j] hi
      rw [← e2, List.length_take, Nat.min_eq_left (Nat.le_of_lt hj)] at this
      rw [this]; exact hu
    have := hc (j * 7 + i) u hd
    have e2 : (ad.add (j * 7)).add i = ad.add (j * 7 + i) := by
      unfold Addr.add
      repeat' split
      all_goals first | rfl | omega | (simp_all; done) | (simp_all; omega)
    rw [e2]; exact this
  refine ⟨ad, e, hb, hx 0 _ rfl, fun i u hi hu => ?_⟩
  rw [← Cd.off _ i hi]
  exact hx i u hu
theorem set2_below {lo : Nat} {w w' : World} {Q : Nat} {x y : Value} (h : Below lo w w') (hQ : lo ≤ Q) : Below lo w ((w'.setCell ⟨Q, 0, none⟩ x).setCell ⟨Q, 1, none⟩ y) := (h.setCell hQ _).setCell hQ _
theorem ms_head {p : List Cd.FnV} {t : Tsk} {ms : List Dm} (h : ms.map Dm.d = (doT p t).2) : ∃ hl : 0 < ms.length, ms[0].d.r = (doT p t).1 ∧ ms[0].d.t = t := by
  obtain ⟨cs, e, _⟩ := doT_form p t
  rw [e] at h
  cases ms with
  | nil => cases h
  | cons m ms =>
    have := (List.cons.inj h).1
    exact ⟨by simp, by show m.d.r = _; rw [this], by show m.d.t = _; rw [this]⟩
end Ev

set_option maxHeartbeats 2000000 in
set_option maxRecDepth 20000 in
theorem eEval (P : Option Addr) (cp : Nat) (l : List Cd.Fm) (w : World) (hR : ∀ m ∈ l, m.f.Rng) (hn : l.length ≤ maxLen) (hP : Cd.Prog w w.heap.size P l) (hL : Ck.Laid w) (A2 : Option Addr) (xs : List Int) (c2 : Nat) (hl : Lies w w.heap.size A2 (icells xs)) (hx : xs.length ≤ 100000) (fuel : Int) :
    Calls Tryz.prog 8 #[.agg #[.slice P l.length cp], .slice A2 xs.length c2, .int .i64 fuel] w (Ev.EvalP (Cd.fns l) xs fuel w) := by
  obtain ⟨V, hV⟩ : ∃ V, V = w.alloc (.cells #[.slice P l.length cp] 24) := ⟨_, rfl⟩
  obtain ⟨W, hW⟩ : ∃ W, W = V.alloc (.cells #[.int .i64 0, .int .i64 0] 30) := ⟨_, rfl⟩
  have hVs : V.heap.size = w.heap.size + 1 := by rw [hV]; simp
  have hb1 : Below w.heap.size w V := by rw [hV]; exact Cd.fn1 _ _ _
  have hb2 : Below V.heap.size V W := by rw [hW]; exact Cd.fn1 _ _ _
  have hb : Below w.heap.size w W := hb1.trans (hb2.mono hb1.size)
  have p0 : W.cell? ⟨w.heap.size, 0, none⟩ = some (.slice P l.length cp) := cell_of_row _ _ 0 _ _ _ ((hb2.block w.heap.size (by omega)).trans (by rw [hV]; exact heap_alloc_new w _))
  have HT : Hid (W.heap[w.heap.size + 1]? = some (.cells #[.int .i64 0, .int .i64 0] 30 (0, 0))) := by show _ = _; rw [← hVs, hW]; exact heap_alloc_new V _
  have HB := Lib.hid hb
  have HAL := Lib.hid (eAll P cp l W hR hn ((hP.below hb).mono hb.size) (hL.later hb) A2 xs c2 ((hl.below hb).mono hb.size) hx fuel)
  have HI : Hid ((Tryz.prog.info? 30).map (·.size) = some 2) := Ev.res_size
  clear hR hn hP hL hl hx hb1 hb2 hb
  go_enter Tryz.func8, Tryz.ntmps8
  go_upto_region 1 with fail
  rw [← hV, ← hVs, ← hW, hVs]
  clear hV hW hVs
  obtain ⟨Y, hYe⟩ : ∃ Y, Y = w.heap.size + 1 := ⟨_, rfl⟩
  rw [← hYe] at HT ⊢
  have HYE := Lib.hid hYe
  clear hYe
  generalize w.heap.size = Z at p0 ⊢
  go_wp2_with fail
  refine HAL.out.mono ?_
  rintro e w1 ⟨hb1, ⟨hre, rfl⟩ | ⟨hre, A3, c3, ms, rfl, hms, hdr⟩⟩
  · have hY1 := (hb1.block Y (Cd.ltH HT.out)).trans HT.out
    have y0 : w1.cell? ⟨Y, 0, none⟩ = some (.int .i64 0) := cell_of_row _ _ 0 _ _ _ hY1
    have y1 : w1.cell? ⟨Y, 1, none⟩ = some (.int .i64 0) := cell_of_row _ _ 1 _ _ _ hY1
    have yf0 := frozen_of_row _ _ 0 _ _ hY1
    have yf1 := frozen_of_row _ _ 1 _ _ hY1
    have HRW := Lib.hid (Ev.set2_heap (x := .int .i64 0) (y := .int .i64 0) hY1)
    have e2 : (Ev.rootE (Cd.fns l) xs.length fuel != 0) = true := by simpa using hre
    have e1 : (Ev.rootE (Cd.fns l) xs.length fuel == 0) = false := by simpa using hre
    have HQ : Hid (Ev.EvalP (Cd.fns l) xs fuel w (.returned (.tuple #[.agg #[.int .i64 0, .int .i64 0], .int .i64 (Ev.rootE (Cd.fns l) xs.length fuel)])) ((w1.setCell ⟨Y, 0, none⟩ (.int .i64 0)).setCell ⟨Y, 1, none⟩ (.int .i64 0))) := by
      refine ⟨?_, Ev.set2_below (HB.out.trans (hb1.mono HB.out.size)) (by have := HYE.out; omega)⟩
      unfold Ev.evR
      rw [if_neg hre]
    generalize Ev.rootE (Cd.fns l) xs.length fuel = E at e1 e2 HQ ⊢
    clear hb1 hY1 hre p0
    go_wp2_with fail
    refine bodyPost_ret (v := .tuple #[.agg #[.int .i64 0, .int .i64 0], .int .i64 E]) (Cd.results_ct Tryz.results8 _ _ Y 30 #[.int .i64 0, .int .i64 0] (0, 0) _ rfl HRW.out Tryz.underlying30 rfl HI.out _ rfl) rfl ?_
    exact HQ.out
  · have hY1 := (hb1.block Y (Cd.ltH HT.out)).trans HT.out
    have y0 : w1.cell? ⟨Y, 0, none⟩ = some (.int .i64 0) := cell_of_row _ _ 0 _ _ _ hY1
    have y1 : w1.cell? ⟨Y, 1, none⟩ = some (.int .i64 0) := cell_of_row _ _ 1 _ _ _ hY1
    have yf0 := frozen_of_row _ _ 0 _ _ hY1
    have yf1 := frozen_of_row _ _ 1 _ _ hY1
    obtain ⟨hl0, hr0, -⟩ := Ev.ms_head hms
    obtain ⟨ad, rfl, -, -, hcs⟩ := Ev.d_at hdr.li hl0
    have r4 : w1.cell? ⟨ad.block, ad.off + 4, none⟩ = some (.int .i64 (Ev.doT (Cd.fns l) (Ev.root xs fuel)).1.val) := by
      rw [← hr0]
      exact hcs 4 _ (by decide) rfl
    have r5 : w1.cell? ⟨ad.block, ad.off + 5, none⟩ = some (.int .i64 (Ev.doT (Cd.fns l) (Ev.root xs fuel)).1.err) := by
      rw [← hr0]
      exact hcs 5 _ (by decide) rfl
    have i1 : (0 : Int) < (ms.length : Int) := by omega
    have HEV : Hid (Ev.evR (Cd.fns l) xs fuel = (Ev.doT (Cd.fns l) (Ev.root xs fuel)).1) := by show _ = _; unfold Ev.evR; rw [if_pos hre]
    generalize Ev.doT (Cd.fns l) (Ev.root xs fuel) = RZ0 at r4 r5 HEV
    obtain ⟨⟨rv, re⟩, rl⟩ := RZ0
    simp only [] at r4 r5
    have HRW := Lib.hid (Ev.set2_heap (x := .int .i64 rv) (y := .int .i64 re) hY1)
    have HQ : Hid (Ev.EvalP (Cd.fns l) xs fuel w (.returned (.tuple #[.agg #[.int .i64 rv, .int .i64 re], .int .i64 0])) ((w1.setCell ⟨Y, 0, none⟩ (.int .i64 rv)).setCell ⟨Y, 1, none⟩ (.int .i64 re))) := by
      refine ⟨?_, Ev.set2_below (HB.out.trans (hb1.mono HB.out.size)) (by have := HYE.out; omega)⟩
      rw [HEV.out, hre]
    clear hb1 hY1 hre p0 hms hdr hr0 hcs hl0
    go_wp2_with fail
    refine bodyPost_ret (v := .tuple #[.agg #[.int .i64 rv, .int .i64 re], .int .i64 0]) (Cd.results_ct Tryz.results8 _ _ Y 30 #[.int .i64 rv, .int .i64 re] (0, 0) _ rfl HRW.out Tryz.underlying30 rfl HI.out _ rfl) rfl ?_
    exact HQ.out

set_option maxHeartbeats 2000000 in
set_option maxRecDepth 20000 in
theorem eTree (P : Option Addr) (cp : Nat) (l : List Cd.Fm) (w : World) (hR : ∀ m ∈ l, m.f.Rng) (hn : l.length ≤ maxLen) (hP : Cd.Prog w w.heap.size P l) (hL : Ck.Laid w) (A2 : Option Addr) (xs : List Int) (c2 : Nat) (hl : Lies w w.heap.size A2 (icells xs)) (hx : xs.length ≤ 100000) (fuel most : Int) :
    Calls Tryz.prog 10 #[.agg #[.slice P l.length cp], .slice A2 xs.length c2, .int .i64 fuel, .int .i64 most] w (Ev.TreeP (Cd.fns l) xs fuel most w) := by
  obtain ⟨V, hV⟩ : ∃ V, V = w.alloc (.cells #[.slice P l.length cp] 24) := ⟨_, rfl⟩
  have hb : Below w.heap.size w V := by rw [hV]; exact Cd.fn1 _ _ _
  have p0 : V.cell? ⟨w.heap.size, 0, none⟩ = some (.slice P l.length cp) := by rw [hV]; exact cell_of_row _ _ 0 _ _ _ (heap_alloc_new w _)
  have HB := Lib.hid hb
  have HAL := Lib.hid (eAll P cp l V hR hn ((hP.below hb).mono hb.size) (hL.later hb) A2 xs c2 ((hl.below hb).mono hb.size) hx fuel)
  have HTE : Hid (Ev.treeE (Cd.fns l) xs fuel most = if Ev.rootE (Cd.fns l) xs.length fuel ≠ 0 then Ev.rootE (Cd.fns l) xs.length fuel else if most < ((Ev.doT (Cd.fns l) (Ev.root xs fuel)).2.length : Int) then 134 else 0) := rfl
  clear hR hn hP hL hl hx hb
  go_enter Tryz.func10, Tryz.ntmps10
  go_upto_region 1 with fail
  rw [← hV]
  clear hV
  generalize w.heap.size = Z at p0 ⊢
  go_wp2_with fail
  refine HAL.out.mono ?_
  rintro e w1 ⟨hb1, ⟨hre, rfl⟩ | ⟨hre, A3, c3, ms, rfl, hms, hdr⟩⟩
  · have e2 : (Ev.rootE (Cd.fns l) xs.length fuel != 0) = true := by simpa using hre
    have e1 : (Ev.rootE (Cd.fns l) xs.length fuel == 0) = false := by simpa using hre
    have HQ : Hid (Ev.TreeP (Cd.fns l) xs fuel most w (.returned (.tuple #[.slice none 0 0, .int .i64 (Ev.rootE (Cd.fns l) xs.length fuel)])) w1) := by
      have e : Ev.treeE (Cd.fns l) xs fuel most = Ev.rootE (Cd.fns l) xs.length fuel := by rw [HTE.out, if_pos hre]
      exact ⟨HB.out.trans (hb1.mono HB.out.size), .inl ⟨by rw [e]; exact hre, by rw [e]⟩⟩
    generalize Ev.rootE (Cd.fns l) xs.length fuel = E at e1 e2 HQ ⊢
    clear hb1 hre p0 HTE
    go_wp2_with fail
    refine bodyPost_ret (results_tmp2 rfl _ _ _) rfl ?_
    exact HQ.out
  · have hlen : ms.length = (Ev.doT (Cd.fns l) (Ev.root xs fuel)).2.length := by rw [← hms, List.length_map]
    by_cases hm : most < (ms.length : Int)
    · have HQ : Hid (Ev.TreeP (Cd.fns l) xs fuel most w (.returned (.tuple #[.slice none 0 0, .int .i64 134])) w1) := by
        have e : Ev.treeE (Cd.fns l) xs fuel most = 134 := by rw [HTE.out, if_neg (by rw [hre]; simp), if_pos (by rw [← hlen]; exact hm)]
        exact ⟨HB.out.trans (hb1.mono HB.out.size), .inl ⟨by rw [e]; decide, by rw [e]⟩⟩
      clear hb1 hre p0 HTE hlen hms hdr
      go_wp2_with fail
      refine bodyPost_ret (results_tmp2 rfl _ _ _) rfl ?_
      exact HQ.out
    · have HQ : Hid (Ev.TreeP (Cd.fns l) xs fuel most w (.returned (.tuple #[.slice A3 ms.length c3, .int .i64 0])) w1) := by
        have e : Ev.treeE (Cd.fns l) xs fuel most = 0 := by rw [HTE.out, if_neg (by rw [hre]; simp), if_neg (by rw [← hlen]; exact hm)]
        exact ⟨HB.out.trans (hb1.mono HB.out.size), .inr ⟨e, hre, A3, c3, ms, rfl, hms, hdr⟩⟩
      clear hb1 hre p0 HTE hlen hms hdr
      go_wp2_with fail
      refine bodyPost_ret (results_tmp2 rfl _ _ _) rfl ?_
      exact HQ.out
end Go.Proofs.YtepnofklmdofmaaGreatDoor
end
