/-
  Layer 13: a task under way, as the document keeps it in memory.
  Layer 13: the document's Plain, and an op that sets or jumps.
  Layer 13: an op that calculates, by the document.
  Layer 13: an op that copies, by the document; its Plain.
  Layer 13: whichever plain op, by the document.
-/
import Derived.Test.YtepnofklmdofmaaGreatDoorLowEvA
import Derived.Test.YtepnofklmdofmaaGreatDoorEvF
import Derived.BigRegion
import Derived.Test.YtepnofklmdofmaaGreatDoorEvS
import Derived.BigQuiet
import Derived.Test.YtepnofklmdofmaaGreatDoorLowEvO
section
namespace Go.Proofs.YtepnofklmdofmaaGreatDoor
open Go.RowKit

namespace Ev
open Cd
/-- The document's own: the program, the task, registers, the next op, what is left, its children, the first that is not joined, the registers of all forks, what is told. -/
def rcs (F : Value) (R : Nat) (u v : Value) (t : Tsk) (A : Option Addr) (c : Nat) (js : List Int) (s : St) : Array Value :=
  #[F, .string t.path, .int .i64 t.fn, .slice A t.args.length c, .int .i64 (t.fuel : Int), .slice (some ⟨R, 0, none⟩) s.regs.length s.regs.length, .int .i64 (s.at_ : Int), .int .i64 (s.left : Int), .int .i64 (s.kids : Int), .int .i64 ((js.length : Int) + 1), u, v]
/-- The registers of all forks: of those that are joined, then of those that are not. -/
def into (js : List Int) (s : St) : List Int := js ++ s.wts.map Prod.fst
structure Rn (B R : Nat) (F u v : Value) (t : Tsk) (A : Option Addr) (c : Nat) (js : List Int) (ds : List Dm) (s : St) (w : World) : Prop where
  obj : w.heap[B]? = some (.cells (rcs F R u v t A c js s) 77 (0, 0))
  regs : w.heap[R]? = some (.cells (icells s.regs).toArray 2 (0, 0))
  rowu : w.ownsRow 0 3 1 u (into js s).length (icells (into js s))
  rowv : w.ownsRow 0 96 7 v ds.length (dcells ds)
  told : ds.map Dm.d = s.done
  ne : R ≠ B
  nu : u.ownBlock ≠ some B
  nr : u.ownBlock ≠ some R
  nv : v.ownBlock ≠ some B
  nw : v.ownBlock ≠ some R
  uv : ∀ i, u.ownBlock = some i → v.ownBlock ≠ some i
section
variable {B R : Nat} {F u v : Value} {t : Tsk} {A : Option Addr} {c : Nat} {js : List Int} {ds : List Dm} {s : St} {w w' : World}
theorem Rn.ltB (h : Rn B R F u v t A c js ds s w) : B < w.heap.size := ltH h.obj
theorem Rn.ltR (h : Rn B R F u v t A c js ds s w) : R < w.heap.size := ltH h.regs
theorem Rn.of (h : Rn B R F u v t A c js ds s w) (h1 : w'.heap[B]? = w.heap[B]?) (h2 : w'.heap[R]? = w.heap[R]?) (h3 : ∀ i, u.ownBlock = some i → w'.heap[i]? = w.heap[i]?) (h4 : ∀ i, v.ownBlock = some i → w'.heap[i]? = w.heap[i]?) : Rn B R F u v t A c js ds s w' :=
  ⟨h1.trans h.obj, h2.trans h.regs, Gm.ownsKeep h.rowu h3, Gm.ownsKeep h.rowv h4, h.told, h.ne, h.nu, h.nr, h.nv, h.nw, h.uv⟩
theorem Rn.below (h : Rn B R F u v t A c js ds s w) (hb : Below w.heap.size w w') : Rn B R F u v t A c js ds s w' :=
  h.of (hb.block _ h.ltB) (hb.block _ h.ltR) (fun i hi => hb.block i (h.rowu.lt i hi).2) fun i hi => hb.block i (h.rowv.lt i hi).2
theorem Rn.drew (h : Rn B R F u v t A c js ds s w) : Rn B R F u v t A c js ds s w.drew := h.below (Below.refl _ _).drew
theorem Rn.cell (h : Rn B R F u v t A c js ds s w) (j : Nat) : w.cell? ⟨B, j, none⟩ = (rcs F R u v t A c js s)[j]? := cell_of_row _ _ j _ _ _ h.obj
theorem Rn.fro (h : Rn B R F u v t A c js ds s w) (j : Nat) : w.frozen? ⟨B, j, none⟩ = false := frozen_of_row _ _ j _ _ h.obj
theorem Rn.reg (h : Rn B R F u v t A c js ds s w) {d : Nat} (hd : d < s.regs.length) : w.cell? ⟨R, d, none⟩ = some (.int .i64 s.regs[d]) := by
  rw [cell_of_row _ _ d _ _ _ h.regs]
  simpa using icells_at hd
theorem Rn.rfro (h : Rn B R F u v t A c js ds s w) (j : Nat) : w.frozen? ⟨R, j, none⟩ = false := frozen_of_row _ _ j _ _ h.regs
/-- One cell of the object written: a number. -/
theorem Rn.setT (h : Rn B R F u v t A c js ds s w) (s' : St) (js' : List Int) (j : Nat) (x : Value) (hj : (rcs F R u v t A c js s).setIfInBounds j x = rcs F R u v t A c js' s') (hr : s'.regs = s.regs) (hw : into js' s' = into js s) (hd : s'.done = s.done) : Rn B R F u v t A c js' ds s' (w.setCell ⟨B, j, none⟩ x) := by
  have hk : ∀ i, i ≠ B → (w.setCell ⟨B, j, none⟩ x).heap[i]? = w.heap[i]? := fun i hi => Below.heap_setCell _ _ _ _ hi
  refine ⟨?_, ?_, ?_, Gm.ownsKeep h.rowv fun i hi => hk i fun e => h.nv (by rw [hi, e]), h.told.trans hd.symm, h.ne, h.nu, h.nr, h.nv, h.nw, h.uv⟩
  · rw [heap_setCell_same _ _ _ _ _ _ h.obj, hj]
  · rw [hk R h.ne, hr]; exact h.regs
  · rw [hw]; exact Gm.ownsKeep h.rowu fun i hi => hk i fun e => h.nu (by rw [hi, e])
/-- One register written. -/
theorem Rn.setR (h : Rn B R F u v t A c js ds s w) (d : Nat) (x : Int) : Rn B R F u v t A c js ds { s with regs := s.regs.set d x } (w.setCell ⟨R, d, none⟩ (.int .i64 x)) := by
  have hk : ∀ i, i ≠ R → (w.setCell ⟨R, d, none⟩ (.int .i64 x)).heap[i]? = w.heap[i]? := fun i hi => Below.heap_setCell _ _ _ _ hi
  refine ⟨?_, ?_, Gm.ownsKeep h.rowu fun i hi => hk i fun e => h.nr (by rw [hi, e]), Gm.ownsKeep h.rowv fun i hi => hk i fun e => h.nw (by rw [hi, e]), h.told, h.ne, h.nu, h.nr, h.nv, h.nw, h.uv⟩
  · rw [hk B (fun e => h.ne e.symm), h.obj]
    unfold rcs
    simp only [List.length_set]
  · rw [heap_setCell_same _ _ _ _ _ _ h.regs]
    unfold icells
    rw [List.map_set, List.setIfInBounds_toArray]
/-- What is off a task's own blocks. -/
def ROff (B R : Nat) (u v : Value) (i : Nat) : Prop := i ≠ B ∧ i ≠ R ∧ some i ≠ u.ownBlock ∧ some i ≠ v.ownBlock
theorem Rn.fresh (h : Rn B R F u v t A c js ds s w) {i : Nat} (hi : w.heap.size ≤ i) : ROff B R u v i :=
  ⟨fun e => by have := h.ltB; omega, fun e => by have := h.ltR; omega, fun e => by have := (h.rowu.lt i e.symm).2; omega, fun e => by have := (h.rowv.lt i e.symm).2; omega⟩
end
end Ev
end Go.Proofs.YtepnofklmdofmaaGreatDoor
end

section
namespace Go.Proofs.YtepnofklmdofmaaGreatDoor
open Go.RowKit

namespace Ev
/-- A plain op was done by the document: the next op's number was raised first. -/
def ROpP (B R : Nat) (F u v : Value) (t : Tsk) (A : Option Addr) (c : Nat) (js : List Int) (ds : List Dm) (s : St) (o : Cd.OpV) (w : World) (e : Ending) (w' : World) : Prop :=
  e = .returned (.int .i64 (plE { s with at_ := s.at_ + 1 } o)) ∧ Rn B R F u v t A c js ds (plS { s with at_ := s.at_ + 1 } o) w' ∧ Gm.Mvg (ROff B R u v) (ROff B R u v) w w'
section
variable {B R : Nat} {F u v : Value} {t : Tsk} {A : Option Addr} {c : Nat} {js : List Int} {ds : List Dm} {s : St} {w w' : World}
theorem Rn.mvB (_h : Rn B R F u v t A c js ds s w) {off : Nat → Prop} {w0 : World} (hm : Gm.Mvg off (ROff B R u v) w0 w) (j : Nat) (x : Value) (hi : ∀ i, i < w0.heap.size → off i → i ≠ B) : Gm.Mvg off (ROff B R u v) w0 (w.setCell ⟨B, j, none⟩ x) := mvg_set hm hi j x
/-- The next op's number is raised. -/
theorem Rn.up (h : Rn B R F u v t A c js ds s w) : Rn B R F u v t A c js ds { s with at_ := s.at_ + 1 } (w.setCell ⟨B, 6, none⟩ (.int .i64 ((s.at_ + 1 : Nat) : Int))) := h.setT _ js 6 _ rfl rfl rfl rfl
theorem Rn.goto (h : Rn B R F u v t A c js ds s w) (n : Nat) : Rn B R F u v t A c js ds { s with at_ := n } (w.setCell ⟨B, 6, none⟩ (.int .i64 (n : Int))) := h.setT _ js 6 _ rfl rfl rfl rfl
end
end Ev

set_option maxHeartbeats 1000000 in
set_option maxRecDepth 20000 in
theorem rop_set {B R : Nat} {F u v : Value} {t : Ev.Tsk} {A : Option Addr} {c : Nat} {js : List Int} {ds : List Ev.Dm} {s : Ev.St} {w : World} (h : Ev.Rn B R F u v t A c js ds s w) (d a b : Nat) (n : Int) (hd : d < s.regs.length) (hat : s.at_ ≤ 1000) :
    Calls Tryz.prog 83 #[.pointer (some ⟨B, 0, none⟩), .agg #[.int .u8 1, .int .i64 (d : Int), .int .i64 (a : Int), .int .i64 (b : Int), .int .i64 n]] w (Ev.ROpP B R F u v t A c js ds s ⟨1, d, a, b, n⟩ w) := by
  obtain ⟨V, hV⟩ : ∃ V, V = w.alloc (.cells #[.int .u8 1, .int .i64 (d : Int), .int .i64 (a : Int), .int .i64 (b : Int), .int .i64 n] 72) := ⟨_, rfl⟩
  have hbV : Below w.heap.size w V := by rw [hV]; exact Cd.fn1 _ _ _
  have hZ : Cd.OB V w.heap.size ⟨1, d, a, b, n⟩ := by show V.heap[_]? = _; rw [hV]; exact heap_alloc_new w _
  have hN := h.below hbV
  have hM : Gm.Mvg (Ev.ROff B R u v) (Ev.ROff B R u v) w V := Gm.Mvg.of_below (off := Ev.ROff B R u v) hbV
  have hB6 : V.cell? ⟨B, 6, none⟩ = some (.int .i64 (s.at_ : Int)) := hN.cell 6
  have hf6 := hN.fro 6
  obtain ⟨V1, hV1⟩ : ∃ W, W = V.setCell ⟨B, 6, none⟩ (.int .i64 ((s.at_ : Int) + 1)) := ⟨_, rfl⟩
  have hN1 : Ev.Rn B R F u v t A c js ds { s with at_ := s.at_ + 1 } V1 := by rw [hV1]; exact hN.up
  have hM1 : Gm.Mvg (Ev.ROff B R u v) (Ev.ROff B R u v) w V1 := by rw [hV1]; exact Ev.mvg_set hM (fun i _ ho => ho.1) _ _
  have hZ1 : Cd.OB V1 w.heap.size ⟨1, d, a, b, n⟩ := by
    show V1.heap[_]? = _
    rw [hV1, Below.heap_setCell _ _ _ _ (show w.heap.size ≠ B by have := h.ltB; omega)]
    exact hZ
  have HFIN : Hid (Ev.ROpP B R F u v t A c js ds s ⟨1, d, a, b, n⟩ w (.returned (.int .i64 0)) (V1.setCell ⟨R, d, none⟩ (.int .i64 n)).drew) := by
    refine ⟨rfl, ?_, Ev.mvg_drew (Ev.mvg_set hM1 (fun i _ ho => ho.2.1) _ _)⟩
    exact (hN1.setR d n).drew
  have d0 : (0 : Int) ≤ (d : Int) := by omega
  have d1 : (d : Int) < (s.regs.length : Int) := by omega
  have r5 : V1.cell? ⟨B, 5, none⟩ = some (.slice (some ⟨R, 0, none⟩) s.regs.length s.regs.length) := hN1.cell 5
  have rd := hN1.reg (d := d) hd
  have rf := hN1.rfro d
  have c0 : V.cell? ⟨w.heap.size, 0, none⟩ = some (.int .u8 1) := hZ.c0
  have e0 : V1.cell? ⟨w.heap.size, 0, none⟩ = some (.int .u8 1) := hZ1.c0
  have e1 : V1.cell? ⟨w.heap.size, 1, none⟩ = some (.int .i64 (d : Int)) := hZ1.c1
  have e4 : V1.cell? ⟨w.heap.size, 4, none⟩ = some (.int .i64 n) := cell_of_row _ _ 4 _ _ _ hZ1
  generalize (Ev.St.regs { s with at_ := s.at_ + 1 })[d]'_ = xd at rd
  clear hbV hZ hN hM hN1 hM1 hZ1 h hd
  go_enter Tryz.func83, Tryz.ntmps83
  go_upto_region 1 with fail
  rw [← hV]
  clear hV
  generalize w.heap.size = Z at c0 e0 e1 e4 ⊢
  go_upto_region 2 with fail
  rw [← hV1]
  clear hV1 hB6 hf6 c0
  go_upto_region 11 with fail
  go_region
  go_wp2_with fail
  go_ret
  exact HFIN.out
set_option maxHeartbeats 1000000 in
set_option maxRecDepth 20000 in
theorem rop_go {B R : Nat} {F u v : Value} {t : Ev.Tsk} {A : Option Addr} {c : Nat} {js : List Int} {ds : List Ev.Dm} {s : Ev.St} {w : World} (h : Ev.Rn B R F u v t A c js ds s w) (d a b : Nat) (n : Nat) (hat : s.at_ ≤ 1000) :
    Calls Tryz.prog 83 #[.pointer (some ⟨B, 0, none⟩), .agg #[.int .u8 10, .int .i64 (d : Int), .int .i64 (a : Int), .int .i64 (b : Int), .int .i64 (n : Int)]] w (Ev.ROpP B R F u v t A c js ds s ⟨10, d, a, b, (n : Int)⟩ w) := by
  obtain ⟨V, hV⟩ : ∃ V, V = w.alloc (.cells #[.int .u8 10, .int .i64 (d : Int), .int .i64 (a : Int), .int .i64 (b : Int), .int .i64 (n : Int)] 72) := ⟨_, rfl⟩
  have hbV : Below w.heap.size w V := by rw [hV]; exact Cd.fn1 _ _ _
  have hZ : Cd.OB V w.heap.size ⟨10, d, a, b, (n : Int)⟩ := by show V.heap[_]? = _; rw [hV]; exact heap_alloc_new w _
  have hN := h.below hbV
  have hM : Gm.Mvg (Ev.ROff B R u v) (Ev.ROff B R u v) w V := Gm.Mvg.of_below (off := Ev.ROff B R u v) hbV
  have hB6 : V.cell? ⟨B, 6, none⟩ = some (.int .i64 (s.at_ : Int)) := hN.cell 6
  have hf6 := hN.fro 6
  obtain ⟨V1, hV1⟩ : ∃ W, W = V.setCell ⟨B, 6, none⟩ (.int .i64 ((s.at_ : Int) + 1)) := ⟨_, rfl⟩
  have hN1 : Ev.Rn B R F u v t A c js ds { s with at_ := s.at_ + 1 } V1 := by rw [hV1]; exact hN.up
  have hM1 : Gm.Mvg (Ev.ROff B R u v) (Ev.ROff B R u v) w V1 := by rw [hV1]; exact Ev.mvg_set hM (fun i _ ho => ho.1) _ _
  have hZ1 : Cd.OB V1 w.heap.size ⟨10, d, a, b, (n : Int)⟩ := by
    show V1.heap[_]? = _
    rw [hV1, Below.heap_setCell _ _ _ _ (show w.heap.size ≠ B by have := h.ltB; omega)]
    exact hZ
  have HFIN : Hid (Ev.ROpP B R F u v t A c js ds s ⟨10, d, a, b, (n : Int)⟩ w (.returned (.int .i64 0)) (V1.setCell ⟨B, 6, none⟩ (.int .i64 (n : Int)))) := by
    refine ⟨rfl, hN1.goto n, Ev.mvg_set hM1 (fun i _ ho => ho.1) _ _⟩
  have g6 : V1.cell? ⟨B, 6, none⟩ = some (.int .i64 ((s.at_ + 1 : Nat) : Int)) := hN1.cell 6
  have gf := hN1.fro 6
  have c0 : V.cell? ⟨w.heap.size, 0, none⟩ = some (.int .u8 10) := hZ.c0
  have e0 : V1.cell? ⟨w.heap.size, 0, none⟩ = some (.int .u8 10) := hZ1.c0
  have e4 : V1.cell? ⟨w.heap.size, 4, none⟩ = some (.int .i64 (n : Int)) := cell_of_row _ _ 4 _ _ _ hZ1
  clear hbV hZ hN hM hN1 hM1 hZ1 h
  go_enter Tryz.func83, Tryz.ntmps83
  go_upto_region 1 with fail
  rw [← hV]
  clear hV
  generalize w.heap.size = Z at c0 e0 e4 ⊢
  go_upto_region 2 with fail
  rw [← hV1]
  clear hV1 hB6 hf6 c0
  go_wp2_with fail
  go_ret
  exact HFIN.out
set_option maxHeartbeats 1000000 in
set_option maxRecDepth 20000 in
theorem rop_if {B R : Nat} {F u v : Value} {t : Ev.Tsk} {A : Option Addr} {c : Nat} {js : List Int} {ds : List Ev.Dm} {s : Ev.St} {w : World} (h : Ev.Rn B R F u v t A c js ds s w) (d a b : Nat) (n : Nat) (ha : a < s.regs.length) (hat : s.at_ ≤ 1000) :
    Calls Tryz.prog 83 #[.pointer (some ⟨B, 0, none⟩), .agg #[.int .u8 11, .int .i64 (d : Int), .int .i64 (a : Int), .int .i64 (b : Int), .int .i64 (n : Int)]] w (Ev.ROpP B R F u v t A c js ds s ⟨11, d, a, b, (n : Int)⟩ w) := by
  obtain ⟨V, hV⟩ : ∃ V, V = w.alloc (.cells #[.int .u8 11, .int .i64 (d : Int), .int .i64 (a : Int), .int .i64 (b : Int), .int .i64 (n : Int)] 72) := ⟨_, rfl⟩
  have hbV : Below w.heap.size w V := by rw [hV]; exact Cd.fn1 _ _ _
  have hZ : Cd.OB V w.heap.size ⟨11, d, a, b, (n : Int)⟩ := by show V.heap[_]? = _; rw [hV]; exact heap_alloc_new w _
  have hN := h.below hbV
  have hM : Gm.Mvg (Ev.ROff B R u v) (Ev.ROff B R u v) w V := Gm.Mvg.of_below (off := Ev.ROff B R u v) hbV
  have hB6 : V.cell? ⟨B, 6, none⟩ = some (.int .i64 (s.at_ : Int)) := hN.cell 6
  have hf6 := hN.fro 6
  obtain ⟨V1, hV1⟩ : ∃ W, W = V.setCell ⟨B, 6, none⟩ (.int .i64 ((s.at_ : Int) + 1)) := ⟨_, rfl⟩
  have hN1 : Ev.Rn B R F u v t A c js ds { s with at_ := s.at_ + 1 } V1 := by rw [hV1]; exact hN.up
  have hM1 : Gm.Mvg (Ev.ROff B R u v) (Ev.ROff B R u v) w V1 := by rw [hV1]; exact Ev.mvg_set hM (fun i _ ho => ho.1) _ _
  have hZ1 : Cd.OB V1 w.heap.size ⟨11, d, a, b, (n : Int)⟩ := by
    show V1.heap[_]? = _
    rw [hV1, Below.heap_setCell _ _ _ _ (show w.heap.size ≠ B by have := h.ltB; omega)]
    exact hZ
  have HF1 : Hid (s.regs[a] ≠ 0 → Ev.ROpP B R F u v t A c js ds s ⟨11, d, a, b, (n : Int)⟩ w (.returned (.int .i64 0)) (V1.drew.setCell ⟨B, 6, none⟩ (.int .i64 (n : Int)))) := by
    intro hx
    have e : Ev.plain { s with at_ := s.at_ + 1 } ⟨11, d, a, b, (n : Int)⟩ = some { s with at_ := n } := by
      unfold Ev.plain
      simp only []
      rw [if_neg (by omega), if_neg (by omega), if_pos trivial, Ev.rgAt_nat ha, if_pos hx, Int.toNat_natCast]
    refine ⟨by unfold Ev.plE; rw [e]; rfl, ?_, Ev.mvg_set (Ev.mvg_drew hM1) (fun i _ ho => ho.1) _ _⟩
    unfold Ev.plS
    rw [e]
    exact hN1.drew.goto n
  have HF0 : Hid (s.regs[a] = 0 → Ev.ROpP B R F u v t A c js ds s ⟨11, d, a, b, (n : Int)⟩ w (.returned (.int .i64 0)) V1.drew) := by
    intro hx
    have e : Ev.plain { s with at_ := s.at_ + 1 } ⟨11, d, a, b, (n : Int)⟩ = some { s with at_ := s.at_ + 1 } := by
      unfold Ev.plain
      simp only []
      rw [if_neg (by omega), if_neg (by omega), if_pos trivial, Ev.rgAt_nat ha, if_neg (fun h => h hx)]
    refine ⟨by unfold Ev.plE; rw [e]; rfl, ?_, Ev.mvg_drew hM1⟩
    unfold Ev.plS
    rw [e]
    exact hN1.drew
  have g6 : V1.cell? ⟨B, 6, none⟩ = some (.int .i64 ((s.at_ + 1 : Nat) : Int)) := hN1.cell 6
  have gf := hN1.fro 6
  have d0 : (0 : Int) ≤ (a : Int) := by omega
  have d1 : (a : Int) < (s.regs.length : Int) := by omega
  have r5 : V1.cell? ⟨B, 5, none⟩ = some (.slice (some ⟨R, 0, none⟩) s.regs.length s.regs.length) := hN1.cell 5
  have rd := hN1.reg (d := a) ha
  have c0 : V.cell? ⟨w.heap.size, 0, none⟩ = some (.int .u8 11) := hZ.c0
  have e0 : V1.cell? ⟨w.heap.size, 0, none⟩ = some (.int .u8 11) := hZ1.c0
  have e2 : V1.cell? ⟨w.heap.size, 2, none⟩ = some (.int .i64 (a : Int)) := hZ1.c2
  have e4 : V1.cell? ⟨w.heap.size, 4, none⟩ = some (.int .i64 (n : Int)) := cell_of_row _ _ 4 _ _ _ hZ1
  replace rd : V1.cell? ⟨R, a, none⟩ = some (.int .i64 s.regs[a]) := rd
  generalize s.regs[a]'_ = xa at rd HF0 HF1
  clear hbV hZ hN hM hN1 hM1 hZ1 h ha
  go_enter Tryz.func83, Tryz.ntmps83
  go_upto_region 1 with fail
  rw [← hV]
  clear hV
  generalize w.heap.size = Z at c0 e0 e2 e4 ⊢
  go_upto_region 2 with fail
  rw [← hV1]
  clear hV1 hB6 hf6 c0
  go_upto_region 15 with fail
  by_cases hx : xa = 0
  · subst hx
    go_region
    go_wp2_with fail
    go_ret
    exact HF0.out trivial
  · have q0 : (xa == 0) = false := by simpa using hx
    have HX := Lib.hid hx
    clear hx
    go_region
    go_wp2_with fail
    go_ret
    exact HF1.out HX.out
end Go.Proofs.YtepnofklmdofmaaGreatDoor
end

section
namespace Go.Proofs.YtepnofklmdofmaaGreatDoor
open Go.RowKit

theorem Ev.quietC {P : Program} {f : FuncId} {args : Array Value} {w : World} {n : Nat} {v : Value} (h : Calls P f args (w.drewN n) fun e w' => e = .returned v ∧ ∃ q, w' = (w.drewN n).drewN q) : Calls P f args (w.drewN n) fun e w'' => e = .returned v ∧ ∃ m, w'' = w.drewN m :=
  h.mono fun _ _ ⟨he, q, hq⟩ => ⟨he, n + q, by rw [hq, World.drewN_drewN]⟩
theorem Ev.belq {B : Nat} {a w : World} (h : Below B a w) (n : Nat) : Below B a (w.drewN n) := ⟨h.os, h.tape, h.output, h.size, h.block⟩
set_option maxHeartbeats 1000000 in
set_option maxRecDepth 20000 in
theorem rop_calc {B R : Nat} {F u v : Value} {t : Ev.Tsk} {A : Option Addr} {c : Nat} {js : List Int} {ds : List Ev.Dm} {s : Ev.St} {w : World} (h : Ev.Rn B R F u v t A c js ds s w) (k d a b : Nat) (n : Int) (h3 : 3 ≤ k) (h9 : k ≤ 9) (hd : d < s.regs.length) (ha : a < s.regs.length) (hb : b < s.regs.length) (hat : s.at_ ≤ 1000) :
    Calls Tryz.prog 83 #[.pointer (some ⟨B, 0, none⟩), .agg #[.int .u8 (k : Int), .int .i64 (d : Int), .int .i64 (a : Int), .int .i64 (b : Int), .int .i64 n]] w (Ev.ROpP B R F u v t A c js ds s ⟨k, d, a, b, n⟩ w) := by
  obtain ⟨V, hV⟩ : ∃ V, V = w.alloc (.cells #[.int .u8 (k : Int), .int .i64 (d : Int), .int .i64 (a : Int), .int .i64 (b : Int), .int .i64 n] 72) := ⟨_, rfl⟩
  have hbV : Below w.heap.size w V := by rw [hV]; exact Cd.fn1 _ _ _
  have hZ : Cd.OB V w.heap.size ⟨k, d, a, b, n⟩ := by show V.heap[_]? = _; rw [hV]; exact heap_alloc_new w _
  have hN := h.below hbV
  have hM : Gm.Mvg (Ev.ROff B R u v) (Ev.ROff B R u v) w V := Gm.Mvg.of_below (off := Ev.ROff B R u v) hbV
  have hB6 : V.cell? ⟨B, 6, none⟩ = some (.int .i64 (s.at_ : Int)) := hN.cell 6
  have hf6 := hN.fro 6
  obtain ⟨V1, hV1⟩ : ∃ W, W = V.setCell ⟨B, 6, none⟩ (.int .i64 ((s.at_ : Int) + 1)) := ⟨_, rfl⟩
  have hN1 : Ev.Rn B R F u v t A c js ds { s with at_ := s.at_ + 1 } V1 := by rw [hV1]; exact hN.up
  have hM1 : Gm.Mvg (Ev.ROff B R u v) (Ev.ROff B R u v) w V1 := by rw [hV1]; exact Ev.mvg_set hM (fun i _ ho => ho.1) _ _
  have hZ1 : Cd.OB V1 w.heap.size ⟨k, d, a, b, n⟩ := by
    show V1.heap[_]? = _
    rw [hV1, Below.heap_setCell _ _ _ _ (show w.heap.size ≠ B by have := h.ltB; omega)]
    exact hZ
  have HPC : Hid (Ev.plain { s with at_ := s.at_ + 1 } ⟨k, d, a, b, n⟩ = (Ev.calcV k s.regs[a] s.regs[b]).map fun x => { { s with at_ := s.at_ + 1 } with regs := s.regs.set d x }) := by
    show _ = _
    rw [Ev.plain_calc (by show 2 ≤ k; omega) h9]
    simp only []
    rw [if_neg (by omega), Ev.rgAt_nat ha, Ev.rgAt_nat hb, Int.toNat_natCast]
  have HF1 : Hid (∀ x q, Ev.calcV k s.regs[a] s.regs[b] = some x → Ev.ROpP B R F u v t A c js ds s ⟨k, d, a, b, n⟩ w (.returned (.int .i64 0)) ((V1.drew.drewN q).setCell ⟨R, d, none⟩ (.int .i64 x)).drew) := by
    intro x q hx
    have e := HPC.out
    rw [hx] at e
    refine ⟨by unfold Ev.plE; rw [e]; rfl, ?_, Ev.mvg_drew (Ev.mvg_set (hM1.trans (Gm.Mvg.of_below (Ev.belq (Below.refl _ _).drew q))) (fun i _ ho => ho.2.1) _ _)⟩
    unfold Ev.plS
    rw [e]
    exact ((hN1.below (Ev.belq (Below.refl _ _).drew q)).setR d x).drew
  have HF0 : Hid (∀ q, Ev.calcV k s.regs[a] s.regs[b] = none → Ev.ROpP B R F u v t A c js ds s ⟨k, d, a, b, n⟩ w (.returned (.int .i64 131)) (V1.drew.drewN q)) := by
    intro q hx
    have e := HPC.out
    rw [hx] at e
    refine ⟨by unfold Ev.plE; rw [e]; rfl, ?_, hM1.trans (Gm.Mvg.of_below (Ev.belq (Below.refl _ _).drew q))⟩
    unfold Ev.plS
    rw [e]
    exact hN1.below (Ev.belq (Below.refl _ _).drew q)
  have d0 : (0 : Int) ≤ (d : Int) := by omega
  have d1 : (d : Int) < (s.regs.length : Int) := by omega
  have a0 : (0 : Int) ≤ (a : Int) := by omega
  have a1 : (a : Int) < (s.regs.length : Int) := by omega
  have b0 : (0 : Int) ≤ (b : Int) := by omega
  have b1 : (b : Int) < (s.regs.length : Int) := by omega
  have r5 : V1.cell? ⟨B, 5, none⟩ = some (.slice (some ⟨R, 0, none⟩) s.regs.length s.regs.length) := hN1.cell 5
  have rd := hN1.reg (d := d) hd
  have ra : V1.cell? ⟨R, a, none⟩ = some (.int .i64 s.regs[a]) := hN1.reg (d := a) ha
  have rb : V1.cell? ⟨R, b, none⟩ = some (.int .i64 s.regs[b]) := hN1.reg (d := b) hb
  have rf := hN1.rfro d
  have c0 : V.cell? ⟨w.heap.size, 0, none⟩ = some (.int .u8 (k : Int)) := hZ.c0
  have e0 : V1.cell? ⟨w.heap.size, 0, none⟩ = some (.int .u8 (k : Int)) := hZ1.c0
  have e1 : V1.cell? ⟨w.heap.size, 1, none⟩ = some (.int .i64 (d : Int)) := hZ1.c1
  have e2 : V1.cell? ⟨w.heap.size, 2, none⟩ = some (.int .i64 (a : Int)) := hZ1.c2
  have e3 : V1.cell? ⟨w.heap.size, 3, none⟩ = some (.int .i64 (b : Int)) := hZ1.c3
  generalize (Ev.St.regs { s with at_ := s.at_ + 1 })[d]'_ = xd at rd
  generalize s.regs[a]'_ = xa at ra HF0 HF1 HPC
  generalize s.regs[b]'_ = xb at rb HF0 HF1 HPC
  clear hbV hZ hN hM hN1 hM1 hZ1 h hd ha hb HPC
  have k1 : ((k : Int) == 1) = false := by simp; omega
  have k2 : ((k : Int) == 2) = false := by simp; omega
  have k10 : ((k : Int) == 10) = false := by simp; omega
  have k11 : ((k : Int) == 11) = false := by simp; omega
  have HC := Lib.hid (fun U => rCalc13 k (by omega) h9 xa xb U)
  clear h3 h9
  go_enter Tryz.func83, Tryz.ntmps83
  go_upto_region 1 with fail
  rw [← hV]
  clear hV
  generalize w.heap.size = Z at c0 e0 e1 e2 e3 ⊢
  go_upto_region 2 with fail
  rw [← hV1]
  clear hV1 hB6 hf6 c0
  go_upto_region 5 with fail
  go_region
  go_upto_region 6 with fail
  replace r5 : V1.drew.cell? ⟨B, 5, none⟩ = some (.slice (some ⟨R, 0, none⟩) s.regs.length s.regs.length) := r5
  replace rd : V1.drew.cell? ⟨R, d, none⟩ = some (.int .i64 xd) := rd
  replace ra : V1.drew.cell? ⟨R, a, none⟩ = some (.int .i64 xa) := ra
  replace rf : V1.drew.frozen? ⟨R, d, none⟩ = false := rf
  replace e0 : V1.drew.cell? ⟨Z, 0, none⟩ = some (.int .u8 (k : Int)) := e0
  replace e1 : V1.drew.cell? ⟨Z, 1, none⟩ = some (.int .i64 (d : Int)) := e1
  replace e2 : V1.drew.cell? ⟨Z, 2, none⟩ = some (.int .i64 (a : Int)) := e2
  clear rb e3
  generalize V1.drew = V2 at r5 rd ra rf e0 e1 e2 HF0 HF1 ⊢
  go_quiet ((go_at_call 103; exact Ev.quietC (HC.out _)))
  replace r5 : (V2.drewN nq).cell? ⟨B, 5, none⟩ = some (.slice (some ⟨R, 0, none⟩) s.regs.length s.regs.length) := r5
  replace rd : (V2.drewN nq).cell? ⟨R, d, none⟩ = some (.int .i64 xd) := rd
  replace rf : (V2.drewN nq).frozen? ⟨R, d, none⟩ = false := rf
  replace e1 : (V2.drewN nq).cell? ⟨Z, 1, none⟩ = some (.int .i64 (d : Int)) := e1
  clear ra e0 e2
  have HF3 : Hid (∀ x, Ev.calcV k xa xb = some x → Ev.ROpP B R F u v t A c js ds s ⟨k, d, a, b, n⟩ w (.returned (.int .i64 0)) ((V2.drewN nq).setCell ⟨R, d, none⟩ (.int .i64 x)).drew) := fun x hx => HF1.out x nq hx
  have HF4 : Hid (Ev.calcV k xa xb = none → Ev.ROpP B R F u v t A c js ds s ⟨k, d, a, b, n⟩ w (.returned (.int .i64 131)) (V2.drewN nq)) := fun hx => HF0.out nq hx
  clear HF0 HF1 HC
  generalize V2.drewN nq = V3 at r5 rd rf e1 HF3 HF4 ⊢
  cases hcv : Ev.calcV k xa xb with
  | none =>
    have HX := Lib.hid hcv
    clear hcv
    go_wp2_with fail
    go_ret
    exact HF4.out HX.out
  | some x =>
    have HX := Lib.hid hcv
    clear hcv
    go_wp2_with fail
    go_region
    go_wp2_with fail
    go_ret
    exact HF3.out x HX.out
end Go.Proofs.YtepnofklmdofmaaGreatDoor
end

section
namespace Go.Proofs.YtepnofklmdofmaaGreatDoor
open Go.RowKit

set_option maxHeartbeats 1000000 in
set_option maxRecDepth 20000 in
theorem rop_copy {B R : Nat} {F u v : Value} {t : Ev.Tsk} {A : Option Addr} {c : Nat} {js : List Int} {ds : List Ev.Dm} {s : Ev.St} {w : World} (h : Ev.Rn B R F u v t A c js ds s w) (d a b : Nat) (n : Int) (hd : d < s.regs.length) (ha : a < s.regs.length) (hat : s.at_ ≤ 1000) :
    Calls Tryz.prog 83 #[.pointer (some ⟨B, 0, none⟩), .agg #[.int .u8 2, .int .i64 (d : Int), .int .i64 (a : Int), .int .i64 (b : Int), .int .i64 n]] w (Ev.ROpP B R F u v t A c js ds s ⟨2, d, a, b, n⟩ w) := by
  obtain ⟨V, hV⟩ : ∃ V, V = w.alloc (.cells #[.int .u8 2, .int .i64 (d : Int), .int .i64 (a : Int), .int .i64 (b : Int), .int .i64 n] 72) := ⟨_, rfl⟩
  have hbV : Below w.heap.size w V := by rw [hV]; exact Cd.fn1 _ _ _
  have hZ : Cd.OB V w.heap.size ⟨2, d, a, b, n⟩ := by show V.heap[_]? = _; rw [hV]; exact heap_alloc_new w _
  have hN := h.below hbV
  have hM : Gm.Mvg (Ev.ROff B R u v) (Ev.ROff B R u v) w V := Gm.Mvg.of_below (off := Ev.ROff B R u v) hbV
  have hB6 : V.cell? ⟨B, 6, none⟩ = some (.int .i64 (s.at_ : Int)) := hN.cell 6
  have hf6 := hN.fro 6
  obtain ⟨V1, hV1⟩ : ∃ W, W = V.setCell ⟨B, 6, none⟩ (.int .i64 ((s.at_ : Int) + 1)) := ⟨_, rfl⟩
  have hN1 : Ev.Rn B R F u v t A c js ds { s with at_ := s.at_ + 1 } V1 := by rw [hV1]; exact hN.up
  have hM1 : Gm.Mvg (Ev.ROff B R u v) (Ev.ROff B R u v) w V1 := by rw [hV1]; exact Ev.mvg_set hM (fun i _ ho => ho.1) _ _
  have hZ1 : Cd.OB V1 w.heap.size ⟨2, d, a, b, n⟩ := by
    show V1.heap[_]? = _
    rw [hV1, Below.heap_setCell _ _ _ _ (show w.heap.size ≠ B by have := h.ltB; omega)]
    exact hZ
  have HF1 : Hid (∀ q, Ev.ROpP B R F u v t A c js ds s ⟨2, d, a, b, n⟩ w (.returned (.int .i64 0)) ((V1.drewN q).setCell ⟨R, d, none⟩ (.int .i64 s.regs[a])).drew) := by
    intro q
    have e : Ev.plain { s with at_ := s.at_ + 1 } ⟨2, d, a, b, n⟩ = some { { s with at_ := s.at_ + 1 } with regs := s.regs.set d s.regs[a] } := by
      rw [Ev.plain_calc (by show 2 ≤ 2; omega) (by show 2 ≤ 9; omega)]
      simp only []
      rw [Ev.rgAt_nat ha, Int.toNat_natCast]
      rfl
    refine ⟨by unfold Ev.plE; rw [e]; rfl, ?_, Ev.mvg_drew (Ev.mvg_set (hM1.trans (Gm.Mvg.of_below (Ev.belq (Below.refl _ _) q))) (fun i _ ho => ho.2.1) _ _)⟩
    unfold Ev.plS
    rw [e]
    exact ((hN1.below (Ev.belq (Below.refl _ _) q)).setR d _).drew
  have d0 : (0 : Int) ≤ (d : Int) := by omega
  have d1 : (d : Int) < (s.regs.length : Int) := by omega
  have a0 : (0 : Int) ≤ (a : Int) := by omega
  have a1 : (a : Int) < (s.regs.length : Int) := by omega
  have r5 : V1.cell? ⟨B, 5, none⟩ = some (.slice (some ⟨R, 0, none⟩) s.regs.length s.regs.length) := hN1.cell 5
  have rd := hN1.reg (d := d) hd
  have ra : V1.cell? ⟨R, a, none⟩ = some (.int .i64 s.regs[a]) := hN1.reg (d := a) ha
  have rf := hN1.rfro d
  have c0 : V.cell? ⟨w.heap.size, 0, none⟩ = some (.int .u8 2) := hZ.c0
  have e0 : V1.cell? ⟨w.heap.size, 0, none⟩ = some (.int .u8 2) := hZ1.c0
  have e1 : V1.cell? ⟨w.heap.size, 1, none⟩ = some (.int .i64 (d : Int)) := hZ1.c1
  have e2 : V1.cell? ⟨w.heap.size, 2, none⟩ = some (.int .i64 (a : Int)) := hZ1.c2
  generalize (Ev.St.regs { s with at_ := s.at_ + 1 })[d]'_ = xd at rd
  generalize s.regs[a]'_ = xa at ra HF1
  clear hbV hZ hN hM hN1 hM1 hZ1 h hd ha
  have HQ : Ev.calcV 2 xa 0 = some xa := rfl
  have HC : Hid (∀ U, Calls Tryz.prog 103 #[.int .u8 2, .int .i64 xa, .int .i64 0] U fun e w' => e = .returned (.tuple #[.int .i64 xa, .bool true]) ∧ ∃ q, w' = U.drewN q) := fun U => by
    have h := rCalc13 2 (by omega) (by omega) xa 0 U
    unfold Ev.CalcQ at h
    rw [HQ] at h
    exact h
  clear HQ
  go_enter Tryz.func83, Tryz.ntmps83
  go_upto_region 1 with fail
  rw [← hV]
  clear hV
  generalize w.heap.size = Z at c0 e0 e1 e2 ⊢
  go_upto_region 2 with fail
  rw [← hV1]
  clear hV1 hB6 hf6 c0
  go_upto_region 6 with fail
  go_quiet ((go_at_call 103; exact Ev.quietC (HC.out _)))
  replace r5 : (V1.drewN nq).cell? ⟨B, 5, none⟩ = some (.slice (some ⟨R, 0, none⟩) s.regs.length s.regs.length) := r5
  replace rd : (V1.drewN nq).cell? ⟨R, d, none⟩ = some (.int .i64 xd) := rd
  replace rf : (V1.drewN nq).frozen? ⟨R, d, none⟩ = false := rf
  replace e1 : (V1.drewN nq).cell? ⟨Z, 1, none⟩ = some (.int .i64 (d : Int)) := e1
  clear ra e0 e2 HC
  have HF3 := Lib.hid (HF1.out nq)
  clear HF1
  generalize V1.drewN nq = V3 at r5 rd rf e1 HF3 ⊢
  go_wp2_with fail
  go_region
  go_wp2_with fail
  go_ret
  exact HF3.out

theorem rPlain13 (o : Cd.OpV) (w : World) : Calls Tryz.prog 67 #[.agg #[.int .u8 (o.k : Int), .int .i64 o.d, .int .i64 o.a, .int .i64 o.b, .int .i64 o.n]] w fun e w' => e = .returned (.bool (decide (o.k ≠ 12 ∧ o.k ≠ 13 ∧ o.k ≠ 14))) ∧ Below w.heap.size w w' := by
  obtain ⟨k, d, a, b, n⟩ := o
  obtain ⟨V, hV⟩ : ∃ V, V = w.alloc (.cells #[.int .u8 (k : Int), .int .i64 d, .int .i64 a, .int .i64 b, .int .i64 n] 72) := ⟨_, rfl⟩
  have HB : Hid (Below w.heap.size w V) := by show Below _ _ _; rw [hV]; exact Cd.fn1 _ _ _
  have hZ : Cd.OB V w.heap.size ⟨k, d, a, b, n⟩ := by show V.heap[_]? = _; rw [hV]; exact heap_alloc_new w _
  have c0 : V.cell? ⟨w.heap.size, 0, none⟩ = some (.int .u8 (k : Int)) := hZ.c0
  clear hZ
  simp only []
  by_cases h12 : k = 12
  · subst h12
    replace hV : V = w.alloc (.cells #[.int .u8 12, .int .i64 d, .int .i64 a, .int .i64 b, .int .i64 n] 72) := hV
    replace c0 : V.cell? ⟨w.heap.size, 0, none⟩ = some (.int .u8 12) := c0
    go_enter Tryz.func67, Tryz.ntmps67
    go_upto_region 1 with fail
    rw [← hV]
    clear hV
    go_wp2_with fail
    go_ret
    exact ⟨rfl, HB.out⟩
  · by_cases h13 : k = 13
    · subst h13
      replace hV : V = w.alloc (.cells #[.int .u8 13, .int .i64 d, .int .i64 a, .int .i64 b, .int .i64 n] 72) := hV
      replace c0 : V.cell? ⟨w.heap.size, 0, none⟩ = some (.int .u8 13) := c0
      go_enter Tryz.func67, Tryz.ntmps67
      go_upto_region 1 with fail
      rw [← hV]
      clear hV
      go_wp2_with fail
      go_ret
      exact ⟨rfl, HB.out⟩
    · by_cases h14 : k = 14
      · subst h14
        replace hV : V = w.alloc (.cells #[.int .u8 14, .int .i64 d, .int .i64 a, .int .i64 b, .int .i64 n] 72) := hV
        replace c0 : V.cell? ⟨w.heap.size, 0, none⟩ = some (.int .u8 14) := c0
        go_enter Tryz.func67, Tryz.ntmps67
        go_upto_region 1 with fail
        rw [← hV]
        clear hV
        go_wp2_with fail
        go_ret
        exact ⟨rfl, HB.out⟩
      · have k12 : ((k : Int) == 12) = false := by simp; omega
        have k13 : ((k : Int) == 13) = false := by simp; omega
        have k14 : ((k : Int) == 14) = false := by simp; omega
        have n12 : ¬ (k : Int) = 12 := by omega
        have n13 : ¬ (k : Int) = 13 := by omega
        have n14 : ¬ (k : Int) = 14 := by omega
        have HK : Hid (decide (k ≠ 12 ∧ k ≠ 13 ∧ k ≠ 14) = true) := decide_eq_true ⟨h12, h13, h14⟩
        clear h12 h13 h14
        go_enter Tryz.func67, Tryz.ntmps67
        go_upto_region 1 with fail
        rw [← hV]
        clear hV
        go_wp2_with fail
        go_ret
        refine ⟨?_, HB.out⟩
        rw [HK.out]
        show Ending.returned (.bool ((k : Int) != 12 && (k : Int) != 13 && (k : Int) != 14)) = _
        simp [bne, k12, k13, k14]
end Go.Proofs.YtepnofklmdofmaaGreatDoor
end

section
namespace Go.Proofs.YtepnofklmdofmaaGreatDoor
open Go.RowKit

theorem rop13 {B R : Nat} {F u v : Value} {t : Ev.Tsk} {A : Option Addr} {c : Nat} {js : List Int} {ds : List Ev.Dm} {s : Ev.St} {w : World} (h : Ev.Rn B R F u v t A c js ds s w) {p : List Cd.FnV} {f : Cd.FnV} (o : Cd.OpV) (g : Ev.GoodO p f o) (hk : o.k ≤ 11) (hr : (s.regs.length : Int) = f.regs) (hat : s.at_ ≤ 1000) :
    Calls Tryz.prog 83 #[.pointer (some ⟨B, 0, none⟩), .agg #[.int .u8 (o.k : Int), .int .i64 o.d, .int .i64 o.a, .int .i64 o.b, .int .i64 o.n]] w (Ev.ROpP B R F u v t A c js ds s o w) := by
  obtain ⟨d, a, b, e1, e2, e3, -, -, -⟩ := g.nat
  have hd := g.d
  have ha := g.a
  have hb := g.b
  have ht := g.tgt
  have h1 := g.k
  obtain ⟨k, od, oa, ob, on⟩ := o
  simp only [] at e1 e2 e3 hd ha hb ht h1 hk
  subst e1 e2 e3
  by_cases k1 : k = 1
  · subst k1
    exact rop_set h d a b on (by have := hd rfl; omega) hat
  · by_cases k2 : k = 2
    · subst k2
      exact rop_copy h d a b on (by have := hd rfl; omega) (by have := ha rfl (by omega); omega) hat
    · by_cases k10 : k = 10
      · subst k10
        obtain ⟨n, rfl, -⟩ := ht (.inl rfl)
        exact rop_go h d a b n hat
      · by_cases k11 : k = 11
        · subst k11
          obtain ⟨n, rfl, -⟩ := ht (.inr rfl)
          exact rop_if h d a b n (by have := ha rfl (by omega); omega) hat
        · have h3 : 3 ≤ k := by omega
          have h9 : k ≤ 9 := by omega
          have q : Cd.hD k = true ∧ Cd.hA k = true ∧ Cd.hB k = true := by
            obtain rfl | rfl | rfl | rfl | rfl | rfl | rfl : k = 3 ∨ k = 4 ∨ k = 5 ∨ k = 6 ∨ k = 7 ∨ k = 8 ∨ k = 9 := by omega
            all_goals exact ⟨rfl, rfl, rfl⟩
          exact rop_calc h k d a b on h3 h9 (by have := hd q.1; omega) (by have := ha q.2.1 (by omega); omega) (by have := hb q.2.2; omega) hat
end Go.Proofs.YtepnofklmdofmaaGreatDoor
end
