/-
  Layer 14: lists that are made anew, stops as values; the contracts of own and of more.
  Layer 14: the contracts of own and argCounts.
  Layer 14: the contract of begin.
-/
import Derived.Test.YtnlhacgihmelhaaGreatDoorLowVmM
import Derived.Test.YtnlhacgihmelhaaGreatDoorEvK
import Derived.Test.YtnlhacgihmelhaaGreatDoorLowBr
import Derived.Deep.RegionLaw
import Derived.BigRegion
section
namespace Go.Proofs.YtnlhacgihmelhaaGreatDoor
open Go.RowKit

namespace Vm
open Cd Ev
/-! Stops. -/
def stpV : Stp → Int × ByteArray × Int × Nat × Int × Int × Int
  | .more => (1, ⟨#[]⟩, 0, 0, 0, 0, 0)
  | .fork t => (2, t.path, t.fn, t.args.length, (t.fuel : Int), 0, 0)
  | .join => (3, ⟨#[]⟩, 0, 0, 0, 0, 0)
  | .done r => (4, ⟨#[]⟩, 0, 0, 0, r.val, r.err)
def kargs : Stp → List Int
  | .fork t => t.args
  | _ => []
theorem stp_size : (Tryz.prog.info? 59).map (·.size) = some 7 := by kernel_rfl
theorem set7_heap {w : World} {Q : Nat} {a b c d e f g x y z u v s t : Value} {T : TypeId} (h : w.heap[Q]? = some (.cells #[a, b, c, d, e, f, g] T (0, 0))) :
    (((((((w.setCell ⟨Q, 0, none⟩ x).setCell ⟨Q, 1, none⟩ y).setCell ⟨Q, 2, none⟩ z).setCell ⟨Q, 3, none⟩ u).setCell ⟨Q, 4, none⟩ v).setCell ⟨Q, 5, none⟩ s).setCell ⟨Q, 6, none⟩ t).heap[Q]? = some (.cells #[x, y, z, u, v, s, t] T (0, 0)) := by
  rw [heap_setCell_same _ _ _ _ _ _ (heap_setCell_same _ _ _ _ _ _ (heap_setCell_same _ _ _ _ _ _ (heap_setCell_same _ _ _ _ _ _ (heap_setCell_same _ _ _ _ _ _ (heap_setCell_same _ _ _ _ _ _ (heap_setCell_same _ _ _ _ _ _ h))))))]
  rfl
def set7 (w : World) (Q : Nat) (x y z u v s t : Value) : World := ((((((w.setCell ⟨Q, 0, none⟩ x).setCell ⟨Q, 1, none⟩ y).setCell ⟨Q, 2, none⟩ z).setCell ⟨Q, 3, none⟩ u).setCell ⟨Q, 4, none⟩ v).setCell ⟨Q, 5, none⟩ s).setCell ⟨Q, 6, none⟩ t
theorem set7_other {w : World} {Q i : Nat} (x y z u v s t : Value) (hi : i ≠ Q) : (set7 w Q x y z u v s t).heap[i]? = w.heap[i]? :=
  (Below.heap_setCell _ _ _ _ hi).trans ((Below.heap_setCell _ _ _ _ hi).trans ((Below.heap_setCell _ _ _ _ hi).trans ((Below.heap_setCell _ _ _ _ hi).trans ((Below.heap_setCell _ _ _ _ hi).trans ((Below.heap_setCell _ _ _ _ hi).trans (Below.heap_setCell _ _ _ _ hi))))))
theorem set7_size (w : World) (Q : Nat) (x y z u v s t : Value) : (set7 w Q x y z u v s t).heap.size = w.heap.size := by unfold set7; simp [World.setCell]
theorem set7_mv {off off' : Nat → Prop} {w w' : World} (h : Gm.Mvg off off' w w') {Q : Nat} (hQ : ∀ i, i < w.heap.size → off i → i ≠ Q) (x y z u v s t : Value) : Gm.Mvg off off' w (set7 w' Q x y z u v s t) := by
  unfold set7
  exact mvg_set (mvg_set (mvg_set (mvg_set (mvg_set (mvg_set (mvg_set h hQ _ _) hQ _ _) hQ _ _) hQ _ _) hQ _ _) hQ _ _) hQ _ _
theorem set7_below {lo : Nat} {w w' : World} {Q : Nat} (h : Below lo w w') (hQ : lo ≤ Q) (x y z u v s t : Value) : Below lo w (set7 w' Q x y z u v s t) :=
  ((((((h.setCell hQ _).setCell hQ _).setCell hQ _).setCell hQ _).setCell hQ _).setCell hQ _).setCell hQ _
/-- What a step of a frame leaves, and what it tells. -/
def OutP (K : Nat → Prop) (b : Bk) (p : List FnV) (t : Tsk) (x : Stp × Fs) (w : World) (e : Ending) (w' : World) : Prop :=
  ∃ (b' : Bk) (k : Int) (pa : ByteArray) (fn : Int) (A : Option Addr) (n c : Nat) (fu va er : Int),
    e = .returned (.agg #[.int .u8 k, .string pa, .int .i64 fn, .slice A n c, .int .i64 fu, .int .i64 va, .int .i64 er]) ∧
    Hid (stpV x.1 = (k, pa, fn, n, fu, va, er) ∧ Hf K b' p t x.2 w' ∧ Gm.Mvg (KOff b) (KOff b') w w' ∧ b'.F = b.F ∧ LOk (fun i => (KOff b' i ∧ K i) ∧ w.heap.size ≤ i) w' A (icells (kargs x.1)))
section
variable {K : Nat → Prop} {b : Bk} {p : List FnV} {t : Tsk} {s : Fs} {w w' : World}
/-- A block that was made for what is told. -/
theorem Hf.at_new (h : Hf K b p t s w) (o : Obj) : Hf (fun i => K i ∧ i ≠ w.heap.size) b p t s (w.alloc o) := by
  have hb : Below w.heap.size w (w.alloc o) := (Below.refl _ _).alloc (Nat.le_refl _) _
  have m2 : Gm.Mvg K (fun i => K i ∧ i ≠ w.heap.size) w (w.alloc o) := ⟨hb.os, hb.tape, hb.output, hb.size, fun i hi _ => hb.block i hi, fun i hi ho => ⟨ho, by omega⟩⟩
  exact h.mv m2 fun i hi => ⟨h.fresh i (Nat.le_trans hb.size hi), by have : (w.alloc o).heap.size = w.heap.size + 1 := by simp
                                                                     omega⟩
theorem Hf.keepY {Y : Nat} (h : Hf (fun i => K i ∧ i ≠ Y) b p t s w) (x y z u v q r : Value) (hK : ∀ i, w.heap.size ≤ i → K i) : Hf K b p t s (set7 w Y x y z u v q r) := by
  have m0 : Gm.Mvg (fun i => K i ∧ i ≠ Y) (fun i => K i ∧ i ≠ Y) w (set7 w Y x y z u v q r) := set7_mv (Gm.Mvg.refl _ _) (fun i _ ho => ho.2) x y z u v q r
  exact h.mv (m0.trans (mvg_imp fun i _ ho => ho.1)) fun i hi => hK i (by rw [set7_size] at hi; exact hi)
/-- What a callee told is told on. -/
theorem OutP.ret {x : Stp × Fs} {W w1 : World} {b' : Bk} {k : Int} {pa : ByteArray} {fn : Int} {A : Option Addr} {n c : Nat} {fu va er : Int} {Y : Nat} (hK : ∀ i, w.heap.size ≤ i → K i) (hY : w.heap.size ≤ Y) (m0 : Gm.Mvg (KOff b) (KOff b) w W)
    (h : stpV x.1 = (k, pa, fn, n, fu, va, er) ∧ Hf (fun i => K i ∧ i ≠ Y) b' p t x.2 w1 ∧ Gm.Mvg (KOff b) (KOff b') W w1 ∧ b'.F = b.F ∧ LOk (fun i => (KOff b' i ∧ (K i ∧ i ≠ Y)) ∧ W.heap.size ≤ i) w1 A (icells (kargs x.1))) (a1 a2 a3 a4 a5 a6 a7 : Value) :
    OutP K b p t x w (.returned (.agg #[.int .u8 k, .string pa, .int .i64 fn, .slice A n c, .int .i64 fu, .int .i64 va, .int .i64 er])) (set7 w1 Y a1 a2 a3 a4 a5 a6 a7) := by
  obtain ⟨h1, h2, h3, h4, h5⟩ := h
  have hs := m0.size
  refine ⟨b', k, pa, fn, A, n, c, fu, va, er, rfl, h1, h2.keepY _ _ _ _ _ _ _ (fun i hi => hK i (Nat.le_trans (Nat.le_trans hs h3.size) hi)), set7_mv (m0.trans h3) (fun i hi _ => by omega) _ _ _ _ _ _ _, h4, ?_⟩
  have m5 : Gm.Mvg (fun i => (KOff b' i ∧ (K i ∧ i ≠ Y)) ∧ W.heap.size ≤ i) (fun i => (KOff b' i ∧ (K i ∧ i ≠ Y)) ∧ W.heap.size ≤ i) w1 (set7 w1 Y a1 a2 a3 a4 a5 a6 a7) := set7_mv (Gm.Mvg.refl _ _) (fun i _ ho => ho.1.2.2) _ _ _ _ _ _ _
  exact (h5.mv m5).imp fun i _ ho => ⟨⟨ho.1.1, ho.1.2.1⟩, Nat.le_trans hs ho.2⟩
theorem OutP.row {w1 : World} {b' : Bk} {Y : Nat} {cs : Array Value} {T : TypeId} (hr : w.heap[Y]? = some (.cells cs T (0, 0))) (hYo : KOff b Y) (m : Gm.Mvg (KOff b) (KOff b') w w1) : w1.heap[Y]? = some (.cells cs T (0, 0)) := (m.block Y (ltH hr) hYo).trans hr
end
end Vm

set_option maxHeartbeats 1000000 in
set_option maxRecDepth 20000 in
theorem vmore (w : World) : Calls Tryz.prog 64 #[] w fun e w' => e = .returned (.agg #[.int .u8 1, .string ⟨#[]⟩, .int .i64 0, .slice none 0 0, .int .i64 0, .int .i64 0, .int .i64 0]) ∧ Below w.heap.size w w' := by
  have hY : (w.alloc (.cells #[.int .u8 0, .string ⟨#[]⟩, .int .i64 0, .slice none 0 0, .int .i64 0, .int .i64 0, .int .i64 0] 59)).heap[w.heap.size]? = some (.cells #[.int .u8 0, .string ⟨#[]⟩, .int .i64 0, .slice none 0 0, .int .i64 0, .int .i64 0, .int .i64 0] 59 (0, 0)) := heap_alloc_new w _
  obtain ⟨W, hW⟩ : ∃ W, W = w.alloc (.cells #[.int .u8 0, .string ⟨#[]⟩, .int .i64 0, .slice none 0 0, .int .i64 0, .int .i64 0, .int .i64 0] 59) := ⟨_, rfl⟩
  rw [← hW] at hY
  have hb : Below w.heap.size w W := by rw [hW]; exact Cd.fn1 _ _ _
  have HI : Hid ((Tryz.prog.info? 59).map (·.size) = some 7) := Vm.stp_size
  have HRW := Lib.hid (Vm.set7_heap (x := .int .u8 1) (y := .string ⟨#[]⟩) (z := .int .i64 0) (u := .slice none 0 0) (v := .int .i64 0) (s := .int .i64 0) (t := .int .i64 0) hY)
  have HFIN := Lib.hid (Vm.set7_below (Q := w.heap.size) hb (Nat.le_refl _) (.int .u8 1) (.string ⟨#[]⟩) (.int .i64 0) (.slice none 0 0) (.int .i64 0) (.int .i64 0) (.int .i64 0))
  have y0 : W.cell? ⟨w.heap.size, 0, none⟩ = some (.int .u8 0) := cell_of_row _ _ 0 _ _ _ hY
  have y1 : W.cell? ⟨w.heap.size, 1, none⟩ = some (.string ⟨#[]⟩) := cell_of_row _ _ 1 _ _ _ hY
  have y2 : W.cell? ⟨w.heap.size, 2, none⟩ = some (.int .i64 0) := cell_of_row _ _ 2 _ _ _ hY
  have y3 : W.cell? ⟨w.heap.size, 3, none⟩ = some (.slice none 0 0) := cell_of_row _ _ 3 _ _ _ hY
  have y4 : W.cell? ⟨w.heap.size, 4, none⟩ = some (.int .i64 0) := cell_of_row _ _ 4 _ _ _ hY
  have y5 : W.cell? ⟨w.heap.size, 5, none⟩ = some (.int .i64 0) := cell_of_row _ _ 5 _ _ _ hY
  have y6 : W.cell? ⟨w.heap.size, 6, none⟩ = some (.int .i64 0) := cell_of_row _ _ 6 _ _ _ hY
  have yf0 := frozen_of_row _ _ 0 _ _ hY
  have yf1 := frozen_of_row _ _ 1 _ _ hY
  have yf2 := frozen_of_row _ _ 2 _ _ hY
  have yf3 := frozen_of_row _ _ 3 _ _ hY
  have yf4 := frozen_of_row _ _ 4 _ _ hY
  have yf5 := frozen_of_row _ _ 5 _ _ hY
  have yf6 := frozen_of_row _ _ 6 _ _ hY
  clear hY hb
  go_enter Tryz.func64, Tryz.ntmps64
  go_upto_region 1 with fail
  rw [← hW]
  clear hW
  obtain ⟨Y, hYe⟩ : ∃ Y, Y = w.heap.size := ⟨_, rfl⟩
  rw [← hYe] at HRW HFIN y0 y1 y2 y3 y4 y5 y6 yf0 yf1 yf2 yf3 yf4 yf5 yf6 ⊢
  have HYE := Lib.hid hYe
  clear hYe
  go_wp2_with fail
  refine bodyPost_ret (v := .agg #[.int .u8 1, .string ⟨#[]⟩, .int .i64 0, .slice none 0 0, .int .i64 0, .int .i64 0, .int .i64 0]) (results_cell_row Tryz.results64 _ _ Y 59 #[.int .u8 1, .string ⟨#[]⟩, .int .i64 0, .slice none 0 0, .int .i64 0, .int .i64 0, .int .i64 0] (0, 0) _ rfl HRW.out Tryz.underlying59 rfl HI.out) rfl ?_
  exact ⟨rfl, by have := HYE.out; subst this; exact HFIN.out⟩
end Go.Proofs.YtnlhacgihmelhaaGreatDoor
end

section
namespace Go.Proofs.YtnlhacgihmelhaaGreatDoor
open Go.RowKit

namespace Vm
open Cd Ev
def OwnP (t : Tsk) (w : World) (e : Ending) (w' : World) : Prop := ∃ (A' : Option Addr) (c' : Nat), e = .returned (.agg #[.string t.path, .int .i64 t.fn, .slice A' t.args.length c', .int .i64 (t.fuel : Int)]) ∧ Hid (Lies w' w'.heap.size A' (icells t.args) ∧ (t.args ≠ [] → ∀ p, A' = some p → w.heap.size ≤ p.block) ∧ Below w.heap.size w w')
end Vm

set_option maxHeartbeats 2000000 in
set_option maxRecDepth 20000 in
theorem vown (t : Ev.Tsk) (A : Option Addr) (c : Nat) (w : World) (hl : Lies w w.heap.size A (icells t.args)) (hn : t.args.length ≤ 100000) (hp : t.path.size ≤ 1000000) :
    Calls Tryz.prog 50 #[.agg #[.string t.path, .int .i64 t.fn, .slice A t.args.length c, .int .i64 (t.fuel : Int)]] w (Vm.OwnP t w) := by
  obtain ⟨V, hV⟩ : ∃ V, V = w.alloc (.cells #[.string t.path, .int .i64 t.fn, .slice A t.args.length c, .int .i64 (t.fuel : Int)] 41) := ⟨_, rfl⟩
  obtain ⟨W, hW⟩ : ∃ W, W = V.alloc (.cells #[.string ⟨#[]⟩, .int .i64 0, .slice none 0 0, .int .i64 0] 41) := ⟨_, rfl⟩
  have hVs : V.heap.size = w.heap.size + 1 := by rw [hV]; simp
  have hb1 : Below w.heap.size w V := by rw [hV]; exact Cd.fn1 _ _ _
  have hb2 : Below V.heap.size V W := by rw [hW]; exact Cd.fn1 _ _ _
  have hb : Below w.heap.size w W := hb1.trans (hb2.mono hb1.size)
  have hZ : W.heap[w.heap.size]? = some (.cells #[.string t.path, .int .i64 t.fn, .slice A t.args.length c, .int .i64 (t.fuel : Int)] 41 (0, 0)) := (hb2.block w.heap.size (by omega)).trans (by rw [hV]; exact heap_alloc_new w _)
  have hT : W.heap[w.heap.size + 1]? = some (.cells #[.string ⟨#[]⟩, .int .i64 0, .slice none 0 0, .int .i64 0] 41 (0, 0)) := by rw [← hVs, hW]; exact heap_alloc_new V _
  have HT := Lib.hid hT
  have HZ := Lib.hid hZ
  have HB := Lib.hid hb
  have HLI := Lib.hid hl
  have HX := Lib.hid hn
  have HI : Hid ((Tryz.prog.info? 41).map (·.size) = some 4) := Ev.task_size
  have HCL : Hid (∀ w, Calls Tryz.prog 70 #[.string t.path] w fun e w' => e = .returned (.string t.path) ∧ Below w.heap.size w w') := fun w => bclone t.path w (by omega)
  clear hn hl hp hb1 hb2 hb
  go_enter Tryz.func50, Tryz.ntmps50
  go_upto_region 1 with fail
  rw [← hV, ← hVs, ← hW, hVs]
  clear hV hW hVs hT hZ
  obtain ⟨Z, hZe⟩ : ∃ Z, Z = w.heap.size := ⟨_, rfl⟩
  rw [← hZe] at HT HZ HB HLI ⊢
  have HZE := Lib.hid hZe
  clear hZe
  have z0 : W.cell? ⟨Z, 0, none⟩ = some (.string t.path) := cell_of_row _ _ 0 _ _ _ HZ.out
  go_wp2_with fail
  refine (HCL.out _).mono ?_
  rintro e w1 ⟨rfl, hb1⟩
  have hr1 := (hb1.block Z (Cd.ltH HZ.out)).trans HZ.out
  have hr2 := heap_setCell_same w1 Z 0 _ _ (.string t.path) hr1
  have ht2 : (w1.setCell ⟨Z, 0, none⟩ (.string t.path)).heap[Z + 1]? = some (.cells #[.string ⟨#[]⟩, .int .i64 0, .slice none 0 0, .int .i64 0] 41 (0, 0)) := (Below.heap_setCell _ _ _ _ (by show Z + 1 ≠ Z; omega)).trans ((hb1.block (Z + 1) (Cd.ltH HT.out)).trans HT.out)
  have hb2 : Below Z w (w1.setCell ⟨Z, 0, none⟩ (.string t.path)) := (HB.out.trans (hb1.mono (by have := Cd.ltH HZ.out; omega))).setCell (Nat.le_refl Z) _
  have z00 : w1.cell? ⟨Z, 0, none⟩ = some (.string t.path) := cell_of_row _ _ 0 _ _ _ hr1
  have zf0 := frozen_of_row _ _ 0 _ _ hr1
  have hlm : Lies (w1.setCell ⟨Z, 0, none⟩ (.string t.path)) (w1.setCell ⟨Z, 0, none⟩ (.string t.path)).heap.size A (icells t.args) := (HLI.out.below hb2).mono (by have h1 := hb2.size; have h2 := HZE.out; omega)
  obtain ⟨w2, hw2⟩ : ∃ x, x = w1.setCell ⟨Z, 0, none⟩ (.string t.path) := ⟨_, rfl⟩
  have hr2' : w2.heap[Z]? = some (.cells #[.string t.path, .int .i64 t.fn, .slice A t.args.length c, .int .i64 (t.fuel : Int)] 41 (0, 0)) := by rw [hw2]; exact hr2
  rw [← hw2] at ht2 hb2 hlm
  clear hb1 z0 HCL hr1 hr2
  go_upto_region 2 with fail
  rw [← hw2]
  clear hw2 z00 zf0
  obtain ⟨v', w3, hap, hown, hb3⟩ := Ev.lappend w2 A t.args c hlm HX.out 25
  have HRUN : Hid ((Builtin.append_ #[25, 25] 25 #[.slice none 0 0, .slice A t.args.length c]).run Tryz.prog w2 = .ok v' w3) := hap
  obtain ⟨A3, c3, rfl⟩ := Ev.own_slice hown
  have z2 : w2.cell? ⟨Z, 2, none⟩ = some (.slice A t.args.length c) := cell_of_row _ _ 2 _ _ _ hr2'
  have hr3 := (hb3.block Z (Cd.ltH hr2')).trans hr2'
  have ht3 := (hb3.block (Z + 1) (Cd.ltH ht2)).trans ht2
  have z32 : w3.cell? ⟨Z, 2, none⟩ = some (.slice A t.args.length c) := cell_of_row _ _ 2 _ _ _ hr3
  have zf3 := frozen_of_row _ _ 2 _ _ hr3
  have hr4 := heap_setCell_same w3 Z 2 _ _ (.slice A3 t.args.length c3) hr3
  have ht4 : (w3.setCell ⟨Z, 2, none⟩ (.slice A3 t.args.length c3)).heap[Z + 1]? = some (.cells #[.string ⟨#[]⟩, .int .i64 0, .slice none 0 0, .int .i64 0] 41 (0, 0)) := (Below.heap_setCell _ _ _ _ (by show Z + 1 ≠ Z; omega)).trans ht3
  obtain ⟨w4, hw4⟩ : ∃ x, x = w3.setCell ⟨Z, 2, none⟩ (.slice A3 t.args.length c3) := ⟨_, rfl⟩
  have hr4' : w4.heap[Z]? = some (.cells #[.string t.path, .int .i64 t.fn, .slice A3 t.args.length c3, .int .i64 (t.fuel : Int)] 41 (0, 0)) := by rw [hw4]; exact hr4
  rw [← hw4] at ht4
  have h23 : w2.heap.size ≤ w3.heap.size := hb3.size
  have hZ2 : Z < w2.heap.size := Cd.ltH hr2'
  have hZ12 : Z + 1 < w2.heap.size := Cd.ltH ht2
  have hb4 : Below Z w w4 := by rw [hw4]; exact (hb2.trans (hb3.mono (by omega))).setCell (Nat.le_refl Z) _
  have hown4 : w4.ownsRow w2.heap.size 2 1 (.slice A3 t.args.length c3) t.args.length (icells t.args) := by
    rw [hw4]
    exact Gm.ownsKeep hown fun i hi => Below.heap_setCell _ _ _ _ (by have := (hown.lt i hi).1; show i ≠ Z; omega)
  have HRW := Lib.hid (Ev.set4_heap (x := .string t.path) (y := .int .i64 t.fn) (z := .slice A3 t.args.length c3) (u := .int .i64 (t.fuel : Int)) ht4)
  have HFIN : Hid (Vm.OwnP t w (.returned (.agg #[.string t.path, .int .i64 t.fn, .slice A3 t.args.length c3, .int .i64 (t.fuel : Int)])) ((((w4.setCell ⟨Z + 1, 0, none⟩ (.string t.path)).setCell ⟨Z + 1, 1, none⟩ (.int .i64 t.fn)).setCell ⟨Z + 1, 2, none⟩ (.slice A3 t.args.length c3)).setCell ⟨Z + 1, 3, none⟩ (.int .i64 (t.fuel : Int)))) := by
    have hk : ∀ i, i ≠ Z + 1 → ((((w4.setCell ⟨Z + 1, 0, none⟩ (.string t.path)).setCell ⟨Z + 1, 1, none⟩ (.int .i64 t.fn)).setCell ⟨Z + 1, 2, none⟩ (.slice A3 t.args.length c3)).setCell ⟨Z + 1, 3, none⟩ (.int .i64 (t.fuel : Int))).heap[i]? = w4.heap[i]? := fun i hi =>
      (Below.heap_setCell _ _ _ _ hi).trans ((Below.heap_setCell _ _ _ _ hi).trans ((Below.heap_setCell _ _ _ _ hi).trans (Below.heap_setCell _ _ _ _ hi)))
    have hrow := Gm.ownsKeep hown4 fun i hi => hk i (fun e => by have := (hown4.lt i hi).1; omega)
    refine ⟨A3, c3, rfl, Cd.rowLies hrow, fun _ p hp => ?_, ?_⟩
    · subst hp
      have := (hown4.lt p.block rfl).1
      have := HZE.out
      omega
    · rw [← HZE.out]
      exact Ev.set4_below hb4 (Nat.le_succ _)
  have y0 : w4.cell? ⟨Z, 0, none⟩ = some (.string t.path) := cell_of_row _ _ 0 _ _ _ hr4'
  have y1 : w4.cell? ⟨Z, 1, none⟩ = some (.int .i64 t.fn) := cell_of_row _ _ 1 _ _ _ hr4'
  have y2 : w4.cell? ⟨Z, 2, none⟩ = some (.slice A3 t.args.length c3) := cell_of_row _ _ 2 _ _ _ hr4'
  have y3 : w4.cell? ⟨Z, 3, none⟩ = some (.int .i64 (t.fuel : Int)) := cell_of_row _ _ 3 _ _ _ hr4'
  have u0 : w4.cell? ⟨Z + 1, 0, none⟩ = some (.string ⟨#[]⟩) := cell_of_row _ _ 0 _ _ _ ht4
  have u1 : w4.cell? ⟨Z + 1, 1, none⟩ = some (.int .i64 0) := cell_of_row _ _ 1 _ _ _ ht4
  have u2 : w4.cell? ⟨Z + 1, 2, none⟩ = some (.slice none 0 0) := cell_of_row _ _ 2 _ _ _ ht4
  have u3 : w4.cell? ⟨Z + 1, 3, none⟩ = some (.int .i64 0) := cell_of_row _ _ 3 _ _ _ ht4
  have uf0 := frozen_of_row _ _ 0 _ _ ht4
  have uf1 := frozen_of_row _ _ 1 _ _ ht4
  have uf2 := frozen_of_row _ _ 2 _ _ ht4
  have uf3 := frozen_of_row _ _ 3 _ _ ht4
  clear hap hown hb3 hr2' ht2 hb2 hlm hr3 ht3 hr4 hr4' ht4 hb4 hown4 h23 hZ2 hZ12
  go_upto_region 3 with (refine Cd.at_app rfl ?_; refine Ev.wpl_app rfl _ _ ⟨rfl, rfl⟩ rfl rfl HRUN.out ?_)
  rw [← hw4]
  clear hw4
  go_wp2_with fail
  refine bodyPost_ret (v := .agg #[.string t.path, .int .i64 t.fn, .slice A3 t.args.length c3, .int .i64 (t.fuel : Int)]) (results_cell_row Tryz.results50 _ _ (Z + 1) 41 #[.string t.path, .int .i64 t.fn, .slice A3 t.args.length c3, .int .i64 (t.fuel : Int)] (0, 0) _ rfl HRW.out Tryz.underlying41 rfl HI.out) rfl ?_
  exact HFIN.out

namespace Vm
open Cd Ev
theorem op_info : (Tryz.prog.info? 72).map (fun i => (i.zero, i.size, i.bytes)) = some (some (.agg #[.int .u8 0, .int .i64 0, .int .i64 0, .int .i64 0, .int .i64 0]), 5, 40) := by kernel_rfl
theorem ocells_one (os : List OpV) : ∀ u ∈ ocells os, u.oneCell' = true := fun u hu => by
  obtain ⟨x, _, hx⟩ := List.mem_flatMap.1 hu
  simp only [OpV.cells, List.mem_cons, List.not_mem_nil, or_false] at hx
  rcases hx with rfl | rfl | rfl | rfl | rfl <;> rfl
/-- append(nil, l...) of ops. -/
theorem opapp (w : World) (A : Option Addr) (os : List OpV) (c : Nat) (hl : Lies w w.heap.size A (ocells os)) (hn : os.length ≤ 100000) (ty : TypeId) :
    ∃ v' w', (Builtin.append_ #[108, 108] ty #[.slice none 0 0, .slice A os.length c]).run Tryz.prog w = .ok v' w' ∧ w'.ownsRow w.heap.size 72 5 v' os.length (ocells os) ∧ Below w.heap.size w w' := by
  obtain ⟨i, hi, hz⟩ := Option.map_eq_some_iff.1 op_info
  simp only [Prod.mk.injEq] at hz
  obtain ⟨z1, z2, z3⟩ := hz
  have hlen : (ocells os).length = os.length * 5 := ocells_len os
  have hown := World.ownsRow_nil w w.heap.size 72 5
  cases os with
  | nil =>
    refine ⟨.slice none 0 0, w, ?_, hown, Below.refl _ _⟩
    cases A <;> simp [Builtin.append_, run_underlying (P := Tryz.prog) Tryz.underlying108, sizeOf, typeInfo, hi, Builtin.lenOf, Builtin.firstCells, loadCells, loadCellsFrom]
  | cons x xs =>
    obtain ⟨ad, rfl, _, hc⟩ := hl (by rw [hlen]; simp)
    obtain ⟨v', w', a, b, d, _⟩ := run_append_own_at (P := Tryz.prog) w w.heap.size 108 ty 72 i _ 5 40 Tryz.underlying108 hi z1 z2 z3 rfl (by omega) (.slice none 0 0) 0 [] hown ad (x :: xs).length c (ocells (x :: xs)) hlen hc (ocells_one _) (by unfold maxLen; omega) (by omega) (Nat.le_refl _)
    refine ⟨v', w', a, ?_, ?_⟩
    · rw [Nat.zero_add, List.nil_append] at b
      exact b
    · exact (Below.refl _ _).grown d (Nat.le_refl _) (fun k hk => by simp [Value.ownBlock] at hk)
def nargs (l : List Fm) : List Int := l.map fun m => m.f.args
theorem nargs_succ {l : List Fm} {k : Nat} (h : k < l.length) : nargs (l.take (k + 1)) = nargs (l.take k) ++ [l[k].f.args] := by
  unfold nargs
  rw [List.take_succ_eq_append_getElem h, List.map_append]
  rfl
theorem nargs_fns (l : List Fm) : nargs l = (fns l).map FnV.args := by unfold nargs fns; rw [List.map_map]; rfl
def CntP (l : List Fm) (w : World) (e : Ending) (w' : World) : Prop := ∃ (A' : Option Addr) (c' : Nat), e = .returned (.slice A' l.length c') ∧ Hid (Lies w' w'.heap.size A' (icells (nargs l)) ∧ (l ≠ [] → ∀ p, A' = some p → w.heap.size ≤ p.block) ∧ Below w.heap.size w w')
end Vm

set_option maxHeartbeats 2000000 in
set_option maxRecDepth 20000 in
theorem vcounts (l : List Cd.Fm) (A : Option Addr) (c : Nat) (w : World) (hP : Cd.Prog w w.heap.size A l) (hn : l.length ≤ 100000) :
    Calls Tryz.prog 62 #[.agg #[.slice A l.length c]] w (Vm.CntP l w) := by
  obtain ⟨V, hV⟩ : ∃ V, V = w.alloc (.cells #[.slice A l.length c] 24) := ⟨_, rfl⟩
  have hb1 : Below w.heap.size w V := by rw [hV]; exact Cd.fn1 _ _ _
  have hp0 : V.heap[w.heap.size]? = some (.cells #[.slice A l.length c] 24 (0, 0)) := by rw [hV]; exact heap_alloc_new w _
  have p0 : V.cell? ⟨w.heap.size, 0, none⟩ = some (.slice A l.length c) := cell_of_row _ _ 0 _ _ _ hp0
  clear hp0
  have HP := Lib.hid ((hP.below hb1).mono hb1.size)
  have HB := Lib.hid hb1
  have HN := Lib.hid hn
  clear hP hn hb1
  go_enter Tryz.func62, Tryz.ntmps62
  go_upto_region 1 with fail
  rw [← hV]
  clear hV
  generalize hZ : w.heap.size = Z at p0 HB ⊢
  have HZ := Lib.hid hZ
  clear hZ
  go_wp2_with fail
  clear p0
  go_loopw [3, 9] (fun s3 s9 wr => ∃ (k : Nat) (A2 : Option Addr) (c2 : Nat), k ≤ l.length ∧ s3 = .slice A2 k c2 ∧ s9 = .int .i64 k ∧ Hid (wr.ownsRow V.heap.size 3 1 (.slice A2 k c2) k (icells (Vm.nargs (l.take k))) ∧ Below V.heap.size V wr)) (fun _ s9 _ => l.length - (intOf s9).toNat)
  case atStart => exact ⟨0, none, 0, Nat.zero_le _, rfl, rfl, ⟨rfl, .inl ⟨rfl, rfl⟩⟩, Below.refl _ _⟩
  case round =>
    obtain ⟨k, A2, c2, hk, rfl, rfl, HK⟩ := hrel
    by_cases hlt : k < l.length
    · have k0 : (0 : Int) ≤ (k : Int) := by omega
      have k1 : (k : Int) < (l.length : Int) := by omega
      obtain ⟨ad, rfl, -, f0, f1, f2⟩ := Cd.fn_at ((HP.out.below HK.out.2).mono HK.out.2.size).fs hlt
      have HS := Lib.hid (Vm.nargs_succ hlt)
      generalize l[k] = m at f0 f1 f2 HS
      obtain ⟨U, hU⟩ : ∃ U, U = wr.alloc (.cells #[.int .i64 m.f.args, .int .i64 m.f.regs, .slice m.A m.f.ops.length m.c] 110) := ⟨_, rfl⟩
      have hbU : Below wr.heap.size wr U := by rw [hU]; exact Cd.fn1 _ _ _
      have hu0 : U.heap[wr.heap.size]? = some (.cells #[.int .i64 m.f.args, .int .i64 m.f.regs, .slice m.A m.f.ops.length m.c] 110 (0, 0)) := by rw [hU]; exact heap_alloc_new wr _
      have u0 : U.cell? ⟨wr.heap.size, 0, none⟩ = some (.int .i64 m.f.args) := cell_of_row _ _ 0 _ _ _ hu0
      clear hu0
      have hbs : V.heap.size ≤ U.heap.size := Nat.le_trans HK.out.2.size hbU.size
      have HKU : Hid (U.ownsRow V.heap.size 3 1 (.slice A2 k c2) k (icells (Vm.nargs (l.take k))) ∧ Below V.heap.size V U) := ⟨Gm.ownsKeep HK.out.1 fun i hi => hbU.block i (HK.out.1.lt i hi).2, HK.out.2.trans (hbU.mono HK.out.2.size)⟩
      have hk100 : k ≤ 100000 := by have := HN.out; omega
      have HLT := Lib.hid hlt
      clear hlt hbU
      go_upto_region 5 with fail
      rw [← hU]
      clear hU f0 f1 f2
      generalize wr.heap.size = Y at u0 ⊢
      go_wp2_with (refine Cd.at_app rfl ?_; refine Ck.ipush HKU.out.1 rfl _ _ rfl rfl rfl m.f.args (by first | with_reducible rfl | rfl) hk100 hbs ?_; intro g cap w6 hown hgr)
      have HNEW : Hid (w6.ownsRow V.heap.size 3 1 (.slice (some ⟨g, 0, none⟩) (k + 1) cap) (k + 1) (icells (Vm.nargs (l.take (k + 1)))) ∧ Below V.heap.size V w6) := by
        refine ⟨?_, ?_⟩
        · rw [HS.out, Ev.icells_snoc]
          exact hown
        · have hb := HKU.out.2.trans ((Cd.fn1 U #[.int .i64 m.f.args] 3).mono HKU.out.2.size)
          exact hb.grown hgr hb.size (fun q hq => (HKU.out.1.lt q hq).1)
      clear hown hgr hbs u0
      go_wp2_with fail
      have hl1 : k < l.length := HLT.out
      go_roundw
      case rel => exact ⟨k + 1, some ⟨g, 0, none⟩, cap, by omega, rfl, by go_num, HNEW.out⟩
      case measure => simp [intOf]; omega
    · have k1 : ¬ (k : Int) < (l.length : Int) := by omega
      obtain rfl : k = l.length := by omega
      clear hlt
      go_wp2_with fail
      go_ret
      refine ⟨A2, c2, rfl, ?_, fun _ p hp => ?_, ?_⟩
      · have := Cd.rowLies HK.out.1
        rwa [List.take_length] at this
      · subst hp
        have h1 := (HK.out.1.lt p.block rfl).1
        have h2 := HB.out.size
        have h3 := HZ.out
        omega
      · have h2 := HB.out.size
        have h3 := HZ.out
        rw [HZ.out]
        exact HB.out.trans (HK.out.2.mono (by omega))
end Go.Proofs.YtnlhacgihmelhaaGreatDoor
end

section
namespace Go.Proofs.YtnlhacgihmelhaaGreatDoor
open Go.RowKit

namespace Vm
open Cd Ev
theorem step_app {ops : Array Oper} {oo : Oper} {a : Act} {w w' : World} {K : Act → World → Prop} {Q : Exit → Act → World → Prop} {E : Prop} {v u v' : Value} {ty st : TypeId} (hgd : oo.guard = none) (s x : Operand)
    (hop : oo.op = .call { callee := .builtin .append, args := #[s, x], argTypes := #[st, st] }) (hty : oo.type = ty) (hs : a.eval s = v) (hx : a.eval x = u)
    (hr : (Builtin.append_ #[st, st] ty #[v, u]).run Tryz.prog w = .ok v' w') (h : K (a.put oo.dst v') w') : if Region.wanted oo (yielded ops a.tmps) = true then Oper.wp Tryz.prog oo a w K Q else E := by
  have hw : Region.wanted oo (yielded ops a.tmps) = true := by simp [Region.wanted, hgd]
  rw [if_pos hw]
  subst hty
  unfold Oper.wp
  simp [execOp, hop, resolve, invoke, builtin, hs, hx, hr, Result.andThen]
  exact h
/-- A frame that was begun. -/
def BegP (p : List FnV) (t : Tsk) (w : World) (e : Ending) (w' : World) : Prop :=
  ∃ b : Bk, e = .returned (.pointer (some ⟨b.F, 0, none⟩)) ∧ (∀ K : Nat → Prop, (∀ i, w.heap.size ≤ i → K i) → Hf K b p t (startF p t) w') ∧ Below w.heap.size w w' ∧ w.heap.size ≤ b.F ∧ w.heap.size ≤ b.R ∧ b.u = .slice none 0 0
theorem beg_fin {l : List Fm} {t : Tsk} {w X : World} {R : Nat} {A OA TA : Option Addr} {ac oc tc n : Nat} (hb : Below w.heap.size w X) (hR : X.heap[R]? = some (.cells (icells (startF (fns l) t).regs).toArray 2 (0, 0))) (hRw : w.heap.size ≤ R)
    (hn : (startF (fns l) t).regs.length = n) (ha : Lies X X.heap.size A (icells t.args)) (ha2 : t.args ≠ [] → ∀ p, A = some p → w.heap.size ≤ p.block ∧ p.block ≠ R) (ho : Lies X X.heap.size OA (ocells (fnOf (fns l) t).ops)) (ho2 : (fnOf (fns l) t).ops ≠ [] → ∀ p, OA = some p → w.heap.size ≤ p.block ∧ p.block ≠ R)
    (ht : Lies X X.heap.size TA (icells (nargs l))) (ht2 : l ≠ [] → ∀ p, TA = some p → w.heap.size ≤ p.block ∧ p.block ≠ R) :
    BegP (fns l) t w (.returned (.pointer (some ⟨X.heap.size, 0, none⟩))) (X.alloc (.cells #[.string t.path, .int .i64 t.fn, .slice A t.args.length ac, .int .i64 (t.fuel : Int), .slice OA (fnOf (fns l) t).ops.length oc, .slice TA l.length tc, .slice (some ⟨R, 0, none⟩) n n, .int .i64 0, .int .i64 (t.fuel : Int), .slice none 0 0, .int .i64 0, .bool false, .bool false, .int .i64 0, .int .i64 0] 122)) := by
  obtain ⟨Y, hY⟩ : ∃ Y, Y = X.alloc (.cells #[.string t.path, .int .i64 t.fn, .slice A t.args.length ac, .int .i64 (t.fuel : Int), .slice OA (fnOf (fns l) t).ops.length oc, .slice TA l.length tc, .slice (some ⟨R, 0, none⟩) n n, .int .i64 0, .int .i64 (t.fuel : Int), .slice none 0 0, .int .i64 0, .bool false, .bool false, .int .i64 0, .int .i64 0] 122) := ⟨_, rfl⟩
  rw [← hY]
  have hbY : Below X.heap.size X Y := by rw [hY]; exact Cd.fn1 _ _ _
  have hF : Y.heap[X.heap.size]? = some (.cells #[.string t.path, .int .i64 t.fn, .slice A t.args.length ac, .int .i64 (t.fuel : Int), .slice OA (fnOf (fns l) t).ops.length oc, .slice TA l.length tc, .slice (some ⟨R, 0, none⟩) n n, .int .i64 0, .int .i64 (t.fuel : Int), .slice none 0 0, .int .i64 0, .bool false, .bool false, .int .i64 0, .int .i64 0] 122 (0, 0)) := by rw [hY]; exact heap_alloc_new X _
  have hRl : R < X.heap.size := Cd.ltH hR
  have hbw : Below w.heap.size w Y := hb.trans (hbY.mono hb.size)
  have hne : ∀ {xs : List Value} {A : Option Addr}, Lies X X.heap.size A xs → xs ≠ [] → ∀ p, A = some p → p.block < X.heap.size := fun h hn p hp => by
    obtain ⟨ad, e, hlt, _⟩ := h (List.length_pos_iff.2 hn)
    rw [hp] at e
    cases e
    exact hlt
  refine ⟨⟨X.heap.size, R, A, ac, OA, oc, TA, tc, .slice none 0 0⟩, rfl, fun K hK => ⟨⟨?_, (hbY.block R hRl).trans hR, ⟨rfl, .inl ⟨rfl, rfl⟩⟩, by show R ≠ X.heap.size; omega, by simp [Value.ownBlock], by simp [Value.ownBlock]⟩, hK _ hb.size, hK _ hRw, fun g hg => by simp [Value.ownBlock] at hg, ?_, ?_, ?_, fun i hi => hK i (Nat.le_trans hbw.size hi)⟩, hbw, hb.size, hRw, rfl⟩
  · rw [hF]
    unfold fcs
    simp only [hn, fns_len]
    rfl
  · exact ⟨(ha.below hbY).mono hbY.size, fun h p hp => ⟨⟨by have := hne ha h p hp; show p.block ≠ X.heap.size; omega, (ha2 (icells_ne h) p hp).2, by simp [Value.ownBlock]⟩, hK _ (ha2 (icells_ne h) p hp).1⟩⟩
  · have h0 : ∀ {x : List OpV}, ocells x ≠ [] → x ≠ [] := fun h e => h (by rw [e]; rfl)
    exact ⟨(ho.below hbY).mono hbY.size, fun h p hp => ⟨⟨by have := hne ho h p hp; show p.block ≠ X.heap.size; omega, (ho2 (h0 h) p hp).2, by simp [Value.ownBlock]⟩, hK _ (ho2 (h0 h) p hp).1⟩⟩
  · have h0 : icells (nargs l) ≠ [] → l ≠ [] := fun h e => h (by rw [e]; rfl)
    rw [← nargs_fns]
    exact ⟨(ht.below hbY).mono hbY.size, fun h p hp => ⟨⟨by have := hne ht h p hp; show p.block ≠ X.heap.size; omega, (ht2 (h0 h) p hp).2, by simp [Value.ownBlock]⟩, hK _ (ht2 (h0 h) p hp).1⟩⟩
end Vm

set_option maxHeartbeats 4000000 in
set_option maxRecDepth 20000 in
theorem vbegin (l : List Cd.Fm) (PA : Option Addr) (pc : Nat) (t : Ev.Tsk) (A : Option Addr) (c : Nat) (w : World) (hP : Cd.Prog w w.heap.size PA l) (hn : l.length ≤ 100000) (hg : ∀ f ∈ Cd.fns l, Ev.GoodF (Cd.fns l) f) (ht : Ev.TOk (Cd.fns l) t) (hl : Lies w w.heap.size A (icells t.args)) (hpz : t.path.size ≤ 1000000) :
    Calls Tryz.prog 43 #[.agg #[.slice PA l.length pc], .agg #[.string t.path, .int .i64 t.fn, .slice A t.args.length c, .int .i64 (t.fuel : Int)]] w (Vm.BegP (Cd.fns l) t w) := by
  obtain ⟨fi, hfi, hfl⟩ := ht.fn
  have hfl2 : fi < l.length := by rw [Cd.fns_len] at hfl; exact hfl
  have hfo : Ev.fnOf (Cd.fns l) t = l[fi].f := by
    unfold Ev.fnOf
    rw [hfi, Int.toNat_natCast, List.getElem?_eq_getElem hfl]
    exact List.getElem_map ..
  have hgf := hg _ ht.mem
  obtain ⟨n, hrn, hn16⟩ := hgf.regs
  obtain ⟨na, hna, hna2⟩ := hgf.args
  have hla : t.args.length ≤ n := by have := ht.args; omega
  have h64 := hgf.len
  have hst : (Vm.startF (Cd.fns l) t).regs = Ev.begR t n := by
    show (Ev.start (Cd.fns l) t).regs = _
    rw [Ev.start_beg, hrn, Int.toNat_natCast]
    rfl
  have hmk : ∀ w : World, (Instr.makeSlice 25 (.int .i64 (n : Int)) (.int .i64 (n : Int))).run Tryz.prog w = .ok (.slice (some ⟨w.heap.size, 0, none⟩) n n) (w.alloc (.cells (madeCells #[.int .i64 0] n) 2)) := run_make_row' (P := Tryz.prog) 25 2 (.int .i64 0) 8 Tryz.underlying25 Ev.i64_info rfl .i64 .i64 n (by omega) (by omega)
  obtain ⟨V1, hV1⟩ : ∃ V, V = w.alloc (.cells #[.slice PA l.length pc] 24) := ⟨_, rfl⟩
  obtain ⟨V2, hV2⟩ : ∃ V, V = V1.alloc (.cells #[.string t.path, .int .i64 t.fn, .slice A t.args.length c, .int .i64 (t.fuel : Int)] 41) := ⟨_, rfl⟩
  have hb1 : Below w.heap.size w V1 := by rw [hV1]; exact Cd.fn1 _ _ _
  have hs1 : V1.heap.size = w.heap.size + 1 := by rw [hV1]; simp
  have hb2 : Below V1.heap.size V1 V2 := by rw [hV2]; exact Cd.fn1 _ _ _
  have hs2 : V2.heap.size = w.heap.size + 2 := by rw [hV2]; simp; omega
  have hB2 : Below w.heap.size w V2 := hb1.trans (hb2.mono hb1.size)
  have hX : V2.heap[w.heap.size]? = some (.cells #[.slice PA l.length pc] 24 (0, 0)) := (hb2.block w.heap.size (by omega)).trans (by rw [hV1]; exact heap_alloc_new w _)
  have hT : V2.heap[w.heap.size + 1]? = some (.cells #[.string t.path, .int .i64 t.fn, .slice A t.args.length c, .int .i64 (t.fuel : Int)] 41 (0, 0)) := by rw [← hs1, hV2]; exact heap_alloc_new V1 _
  have hP2 := (hP.below hB2).mono hB2.size
  obtain ⟨ad, rfl, hadl, c0, c1, c2⟩ := Cd.fn_at hP2.fs hfl2
  have HOPS := Lib.hid (hP.os _ (List.getElem_mem hfl2))
  have HFO := Lib.hid hfo
  rw [hfo] at hrn h64
  generalize l[fi] = m at c0 c1 c2 HOPS HFO hrn h64
  obtain ⟨V3, hV3⟩ : ∃ V, V = V2.alloc (.cells #[.int .i64 m.f.args, .int .i64 m.f.regs, .slice m.A m.f.ops.length m.c] 110) := ⟨_, rfl⟩
  obtain ⟨V4, hV4⟩ : ∃ V, V = V3.alloc (.cells (madeCells #[.int .i64 0] n) 2) := ⟨_, rfl⟩
  have hb3 : Below V2.heap.size V2 V3 := by rw [hV3]; exact Cd.fn1 _ _ _
  have hs3 : V3.heap.size = w.heap.size + 3 := by rw [hV3]; simp; omega
  have hb4 : Below V3.heap.size V3 V4 := by rw [hV4]; exact Cd.fn1 _ _ _
  have hs4 : V4.heap.size = w.heap.size + 4 := by rw [hV4]; simp; omega
  have hf3 : V3.heap[w.heap.size + 2]? = some (.cells #[.int .i64 m.f.args, .int .i64 m.f.regs, .slice m.A m.f.ops.length m.c] 110 (0, 0)) := by rw [← hs2, hV3]; exact heap_alloc_new V2 _
  have hB4 : Below V2.heap.size V2 V4 := hb3.trans (hb4.mono hb3.size)
  have hR4 : V4.heap[w.heap.size + 3]? = some (.cells (madeCells #[.int .i64 0] n) 2 (0, 0)) := by rw [← hs3, hV4]; exact heap_alloc_new V3 _
  have hBw4 : Below w.heap.size w V4 := hB2.trans (hB4.mono hB2.size)
  obtain ⟨w5, hcp, hR5, hg5⟩ := Ev.copy_args V4 3 (w.heap.size + 3) n c A t hla hR4 ((hl.below hBw4).mono hBw4.size)
  have HCP : Hid ((Builtin.copy_ #[25, 25] 3 #[.slice (some ⟨w.heap.size + 3, 0, none⟩) n n, .slice A t.args.length c]).run Tryz.prog V4 = .ok (goInt t.args.length) w5) := hcp
  have hB5 : Below w.heap.size w w5 := hBw4.grown hg5 hBw4.size (fun k hk => by have : w.heap.size + 3 = k := Option.some.inj hk; omega)
  have h5 : ∀ i, i < V4.heap.size → i ≠ w.heap.size + 3 → w5.heap[i]? = V4.heap[i]? := fun i hi hne => hg5.block i hi (fun e => hne (Option.some.inj e))
  have hs5 : w.heap.size + 4 ≤ w5.heap.size := by have := hg5.size; omega
  have hX5 : w5.heap[w.heap.size]? = some (.cells #[.slice (some ad) l.length pc] 24 (0, 0)) := (h5 _ (by omega) (by omega)).trans ((hB4.block _ (by omega)).trans hX)
  have hT5 : w5.heap[w.heap.size + 1]? = some (.cells #[.string t.path, .int .i64 t.fn, .slice A t.args.length c, .int .i64 (t.fuel : Int)] 41 (0, 0)) := (h5 _ (by omega) (by omega)).trans ((hB4.block _ (by omega)).trans hT)
  have hF5 : w5.heap[w.heap.size + 2]? = some (.cells #[.int .i64 m.f.args, .int .i64 m.f.regs, .slice m.A m.f.ops.length m.c] 110 (0, 0)) := (h5 _ (by omega) (by omega)).trans ((hb4.block _ (by omega)).trans hf3)
  have HP5 := Lib.hid ((hP.below hB5).mono hB5.size)
  have HL5 := Lib.hid ((hl.below hB5).mono hB5.size)
  have HO5 := Lib.hid ((HOPS.out.below hB5).mono hB5.size)
  have HB5 := Lib.hid hB5
  have x0 : V2.cell? ⟨w.heap.size, 0, none⟩ = some (.slice (some ad) l.length pc) := cell_of_row _ _ 0 _ _ _ hX
  have t1 : V2.cell? ⟨w.heap.size + 1, 1, none⟩ = some (.int .i64 (fi : Int)) := by rw [← hfi]; exact cell_of_row _ _ 1 _ _ _ hT
  rw [hrn] at c1 hf3 hF5 hV3
  have t2 : V4.cell? ⟨w.heap.size + 1, 2, none⟩ = some (.slice A t.args.length c) := cell_of_row _ _ 2 _ _ _ ((hB4.block _ (by omega)).trans hT)
  have f1 : V3.cell? ⟨V2.heap.size, 1, none⟩ = some (.int .i64 (n : Int)) := by rw [hs2]; exact cell_of_row _ _ 1 _ _ _ hf3
  obtain ⟨R, hRe⟩ : ∃ R, R = V3.heap.size := ⟨_, rfl⟩
  obtain ⟨Y, hYe⟩ : ∃ Y, Y = V2.heap.size := ⟨_, rfl⟩
  obtain ⟨Z, hZe⟩ : ∃ Z, Z = w.heap.size := ⟨_, rfl⟩
  have HZS : Hid (w.heap.size = Z ∧ R = Z + 3 ∧ Z + 4 ≤ w5.heap.size) := ⟨hZe.symm, by omega, by omega⟩
  have HTR := Lib.hid hst
  have HLEN : Hid ((Ev.begR t n).length = n) := Ev.begR_len hla
  have f0 : (0 : Int) ≤ (fi : Int) := by omega
  have fl : (fi : Int) < (l.length : Int) := by omega
  rw [show w.heap.size + 3 = R by omega] at hR5 hcp
  rw [show w.heap.size + 2 = Y by omega] at hF5
  rw [← hYe] at f1
  rw [← hZe] at x0 t1 t2 hX5 hT5
  have HR5 := Lib.hid hR5
  have q0 : w5.cell? ⟨Z, 0, none⟩ = some (.slice (some ad) l.length pc) := cell_of_row _ _ 0 _ _ _ hX5
  have q1 : w5.cell? ⟨Z + 1, 0, none⟩ = some (.string t.path) := cell_of_row _ _ 0 _ _ _ hT5
  have q2 : w5.cell? ⟨Z + 1, 1, none⟩ = some (.int .i64 t.fn) := cell_of_row _ _ 1 _ _ _ hT5
  have q3 : w5.cell? ⟨Z + 1, 2, none⟩ = some (.slice A t.args.length c) := cell_of_row _ _ 2 _ _ _ hT5
  have q4 : w5.cell? ⟨Z + 1, 3, none⟩ = some (.int .i64 (t.fuel : Int)) := cell_of_row _ _ 3 _ _ _ hT5
  have q5 : w5.cell? ⟨Y, 2, none⟩ = some (.slice m.A m.f.ops.length m.c) := cell_of_row _ _ 2 _ _ _ hF5
  have H64 := Lib.hid h64
  have HZE := Lib.hid hZe
  have HYE := Lib.hid hYe
  have HRE := Lib.hid hRe
  clear hZe hYe hRe
  have HN := Lib.hid hn
  have HPZ := Lib.hid hpz
  have HLA : Hid (t.args.length ≤ 100000) := by show _ ≤ _; omega
  have HOWN : Hid (∀ U, Below w5.heap.size w5 U → Calls Tryz.prog 50 #[.agg #[.string t.path, .int .i64 t.fn, .slice A t.args.length c, .int .i64 (t.fuel : Int)]] U fun e w' => ∃ (A' : Option Addr) (c' : Nat), e = .returned (.agg #[.string t.path, .int .i64 t.fn, .slice A' t.args.length c', .int .i64 (t.fuel : Int)]) ∧ Hid (Lies w' w'.heap.size A' (icells t.args) ∧ (t.args ≠ [] → ∀ p, A' = some p → w5.heap.size ≤ p.block)) ∧ Below w5.heap.size w5 w') := fun U hU => by
    refine (vown t A c U ((HL5.out.below hU).mono hU.size) HLA.out hpz).mono ?_
    rintro e w' ⟨A', c', h1, h2⟩
    exact ⟨A', c', h1, ⟨h2.out.1, fun hn p hp => Nat.le_trans hU.size (h2.out.2.1 hn p hp)⟩, hU.trans (h2.out.2.2.mono hU.size)⟩
  have HCNT : Hid (∀ U, Below w5.heap.size w5 U → Calls Tryz.prog 62 #[.agg #[.slice (some ad) l.length pc]] U fun e w' => ∃ (A' : Option Addr) (c' : Nat), e = .returned (.slice A' l.length c') ∧ Hid (Lies w' w'.heap.size A' (icells (Vm.nargs l)) ∧ (l ≠ [] → ∀ p, A' = some p → w5.heap.size ≤ p.block) ∧ Below U.heap.size U w') ∧ Below w5.heap.size w5 w') := fun U hU => by
    refine (vcounts l (some ad) pc U ((HP5.out.below hU).mono hU.size) hn).mono ?_
    rintro e w' ⟨A', c', h1, h2⟩
    exact ⟨A', c', h1, ⟨h2.out.1, fun hn p hp => Nat.le_trans hU.size (h2.out.2.1 hn p hp), h2.out.2.2⟩, hU.trans (h2.out.2.2.mono hU.size)⟩
  have HAPP : Hid (∀ U, Below w5.heap.size w5 U → ∃ v' w', (Builtin.append_ #[108, 108] 108 #[.slice none 0 0, .slice m.A m.f.ops.length m.c]).run Tryz.prog U = .ok v' w' ∧ w'.ownsRow U.heap.size 72 5 v' m.f.ops.length (Cd.ocells m.f.ops) ∧ Below U.heap.size U w') := fun U hU => Vm.opapp U m.A m.f.ops m.c ((HO5.out.below hU).mono hU.size) (by have := H64.out; omega) _
  clear hP hn hl hpz hg ht hgf hfl hfo hrn hn16 hna hna2 hla hst hb1 hs1 hb2 hs2 hB2 hX hT hP2 hadl HOPS hb3 hs3 hb4 hs4 hf3 hB4 hR4 hBw4 hR5 hg5 hB5 h5 hs5 hX5 hT5 hF5 h64 hfl2 hfi
  go_enter Tryz.func43, Tryz.ntmps43
  go_upto_region 1 with fail
  rw [← hV1, ← hV2, ← HZE.out]
  clear hV1 hV2
  go_upto_region 2 with fail
  rw [← hV3, ← HYE.out]
  clear hV3 x0 t1 c0 c1 c2
  go_upto_region 3 with fail
  rw [← hV4, ← HRE.out]
  clear hV4 hmk f1
  go_upto_region 4 with fail
  have S4 : w5.cell? ⟨Z, 0, none⟩ = some (.slice (some ad) l.length pc) ∧ w5.cell? ⟨Z + 1, 0, none⟩ = some (.string t.path) ∧ w5.cell? ⟨Z + 1, 1, none⟩ = some (.int .i64 t.fn) ∧ w5.cell? ⟨Z + 1, 2, none⟩ = some (.slice A t.args.length c) ∧ w5.cell? ⟨Z + 1, 3, none⟩ = some (.int .i64 (t.fuel : Int)) ∧ w5.cell? ⟨Y, 2, none⟩ = some (.slice m.A m.f.ops.length m.c) := ⟨q0, q1, q2, q3, q4, q5⟩
  clear q0 q1 q2 q3 q4 q5 hcp t2
  have hrf : Below w5.heap.size w5 w5 := Below.refl _ _
  go_region_held3 (fun w' => w'.cell? ⟨Z, 0, none⟩ = some (.slice (some ad) l.length pc) ∧ w'.cell? ⟨Z + 1, 0, none⟩ = some (.string t.path) ∧ w'.cell? ⟨Z + 1, 1, none⟩ = some (.int .i64 t.fn) ∧ w'.cell? ⟨Z + 1, 2, none⟩ = some (.slice A t.args.length c) ∧ w'.cell? ⟨Z + 1, 3, none⟩ = some (.int .i64 (t.fuel : Int)) ∧ w'.cell? ⟨Y, 2, none⟩ = some (.slice m.A m.f.ops.length m.c))
    (first
      | exact S4
      | exact ⟨Ev.cell_below hb9 S4.1, Ev.cell_below hb9 S4.2.1, Ev.cell_below hb9 S4.2.2.1, Ev.cell_below hb9 S4.2.2.2.1, Ev.cell_below hb9 S4.2.2.2.2.1, Ev.cell_below hb9 S4.2.2.2.2.2⟩
      | exact ⟨Ev.cell_below hb8 S4.1, Ev.cell_below hb8 S4.2.1, Ev.cell_below hb8 S4.2.2.1, Ev.cell_below hb8 S4.2.2.2.1, Ev.cell_below hb8 S4.2.2.2.2.1, Ev.cell_below hb8 S4.2.2.2.2.2⟩
      | exact ⟨Ev.cell_below hb57 S4.1, Ev.cell_below hb57 S4.2.1, Ev.cell_below hb57 S4.2.2.1, Ev.cell_below hb57 S4.2.2.2.1, Ev.cell_below hb57 S4.2.2.2.2.1, Ev.cell_below hb57 S4.2.2.2.2.2⟩
      | exact ⟨Ev.cell_below hb6 S4.1, Ev.cell_below hb6 S4.2.1, Ev.cell_below hb6 S4.2.2.1, Ev.cell_below hb6 S4.2.2.2.1, Ev.cell_below hb6 S4.2.2.2.2.1, Ev.cell_below hb6 S4.2.2.2.2.2⟩)
    (first
      | (with_reducible refine (HCNT.out w7 hb57).mono ?_
         rintro e w8 ⟨TA, tc, rfl, h8, hb8⟩
         have hb9 : Below w5.heap.size w5 (w8.alloc (.cells #[.string t.path, .int .i64 t.fn, .slice A1 t.args.length c1, .int .i64 (t.fuel : Int), .slice OA m.f.ops.length oc, .slice TA l.length tc, .slice (some ⟨R, 0, none⟩) n n, .int .i64 0, .int .i64 (t.fuel : Int), .slice none 0 0, .int .i64 0, .bool false, .bool false, .int .i64 0, .int .i64 0] 122)) := hb8.alloc hb8.size _)
      | (with_reducible refine (HOWN.out _ (by first | exact Below.refl _ _ | exact (Below.refl _ _).drew)).mono ?_
         rintro e w6 ⟨A1, c1, rfl, h6, hb6⟩)
      | (obtain ⟨v7, w7, hap7, hown7, hb7⟩ := HAPP.out w6 hb6
         obtain ⟨OA, oc, rfl⟩ := Ev.own_slice hown7
         refine Vm.step_app (by rfl) _ _ (by rfl) (by rfl) (by rfl) (by rfl) hap7 ?_
         have hb57 : Below w5.heap.size w5 w7 := hb6.trans (hb7.mono hb6.size)))
  have HFIN : Hid (Vm.BegP (Cd.fns l) t w (.returned (.pointer (some ⟨w8.heap.size, 0, none⟩))) (w8.alloc (.cells #[.string t.path, .int .i64 t.fn, .slice A1 t.args.length c1, .int .i64 (t.fuel : Int), .slice OA m.f.ops.length oc, .slice TA l.length tc, .slice (some ⟨R, 0, none⟩) n n, .int .i64 0, .int .i64 (t.fuel : Int), .slice none 0 0, .int .i64 0, .bool false, .bool false, .int .i64 0, .int .i64 0] 122))) := by
    have hz := HZS.out
    have hR5 : w5.heap[R]? = some (.cells (icells (Vm.startF (Cd.fns l) t).regs).toArray 2 (0, 0)) := by rw [HTR.out]; exact HR5.out
    have hb78 := h8.out.2.2
    have hb68 : Below w6.heap.size w6 w8 := hb7.trans (hb78.mono hb7.size)
    have h56 := hb6.size
    have hbw : Below w.heap.size w w8 := by
      have h := HB5.out
      exact h.trans (hb8.mono h.size)
    have := @Vm.beg_fin l t w w8 R A1 OA TA c1 oc tc n hbw ((hb8.block R (by omega)).trans hR5) (by omega) (by rw [HTR.out]; exact HLEN.out) ((h6.out.1.below hb68).mono hb68.size) (fun hn p hp => by have := h6.out.2 hn p hp; omega) (by rw [HFO.out]; exact ((Cd.rowLies hown7).below hb78).mono hb78.size) (fun _ p hp => by subst hp; have := (hown7.lt p.block rfl).1; omega) h8.out.1 (fun hn p hp => by have := h8.out.2.1 hn p hp; omega)
    rw [HFO.out] at this
    exact this
  clear hb6 hb7 hb8 hb9 hb57 h6 h8 hown7 hap7 S4
  go_wp2_with fail
  go_ret
  exact HFIN.out
end Go.Proofs.YtnlhacgihmelhaaGreatDoor
end
