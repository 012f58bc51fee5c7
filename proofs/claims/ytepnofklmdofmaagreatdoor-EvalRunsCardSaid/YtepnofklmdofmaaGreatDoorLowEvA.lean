/-
  Layer 13: a tree of tasks, and a task, as the program keeps them in memory.
  Layer 13: what ops make of two numbers: the map of functions, and those functions.
  Layer 13: the contract of eval.begin.
  Layer 13: the contracts of a task's args and join.
-/
import Derived.Test.YtepnofklmdofmaaGreatDoorEvM
import Derived.Test.YtepnofklmdofmaaGreatDoorLowGm
import Derived.Test.YtepnofklmdofmaaGreatDoorChL
import Derived.Test.YtepnofklmdofmaaGreatDoorLowCdA
import Derived.Laws.CopyRow
import Derived.BigRegion
import Derived.Test.YtepnofklmdofmaaGreatDoorLowChA
import Derived.Deep.RegionLaw
import Derived.Deep.DeepCutAuto
import Derived.Deep.CutBlock
section
namespace Go.Proofs.YtepnofklmdofmaaGreatDoor
open Go.RowKit

namespace Ev
open Cd
/-- A task that is told, and where its arguments lie. -/
structure Dm where
  d : Dn
  A : Option Addr
  c : Nat
def Dm.cells (m : Dm) : List Value := [.string m.d.t.path, .int .i64 m.d.t.fn, .slice m.A m.d.t.args.length m.c, .int .i64 (m.d.t.fuel : Int), .int .i64 m.d.r.val, .int .i64 m.d.r.err, .int .i64 (m.d.kids : Int)]
def dcells (l : List Dm) : List Value := l.flatMap Dm.cells
theorem dcells_len (l : List Dm) : (dcells l).length = l.length * 7 := by
  induction l with
  | nil => rfl
  | cons o l ih =>
    show (o.cells ++ dcells l).length = _
    rw [List.length_append, ih]
    simp [Dm.cells]
    omega
theorem dcells_app (a b : List Dm) : dcells (a ++ b) = dcells a ++ dcells b := by unfold dcells; simp
def wc1 (x : Int × Res) : List Value := [.int .i64 x.2.val, .int .i64 x.2.err, .int .i64 x.1]
def wcells (l : List (Int × Res)) : List Value := l.flatMap wc1
theorem wcells_len (l : List (Int × Res)) : (wcells l).length = l.length * 3 := by
  induction l with
  | nil => rfl
  | cons o l ih =>
    show (wc1 o ++ wcells l).length = _
    rw [List.length_append, ih]
    simp [wc1]
    omega
theorem wcells_app (a b : List (Int × Res)) : wcells (a ++ b) = wcells a ++ wcells b := by unfold wcells; simp
theorem done_info : (Tryz.prog.info? 96).map (fun i => (i.zero, i.size, i.bytes)) = some (some (.agg #[.string ⟨#[]⟩, .int .i64 0, .slice none 0 0, .int .i64 0, .int .i64 0, .int .i64 0, .int .i64 0]), 7, 80) := by kernel_rfl
theorem child_info : (Tryz.prog.info? 246).map (fun i => (i.zero, i.size, i.bytes)) = some (some (.agg #[.int .i64 0, .int .i64 0, .int .i64 0]), 3, 24) := by kernel_rfl
theorem i64_info : (Tryz.prog.info? 2).map (fun i => (i.zero, i.size, i.bytes)) = some (some (.int .i64 0), 1, 8) := by kernel_rfl
/-- A task, as it is handed on. -/
def Tsk.arr (t : Tsk) (A : Option Addr) (c : Nat) : Array Value := #[.string t.path, .int .i64 t.fn, .slice A t.args.length c, .int .i64 (t.fuel : Int)]
def Tsk.val (t : Tsk) (A : Option Addr) (c : Nat) : Value := .agg #[.string t.path, .int .i64 t.fn, .slice A t.args.length c, .int .i64 (t.fuel : Int)]
def Res.cells (r : Res) : Array Value := #[.int .i64 r.val, .int .i64 r.err]

/-! Lists of numbers that lie off some blocks. -/
structure AOk (off : Nat → Prop) (w : World) (A : Option Addr) (xs : List Int) : Prop where
  li : Lies w w.heap.size A (icells xs)
  off : xs ≠ [] → ∀ p, A = some p → off p.block
theorem lies_mv {off off' : Nat → Prop} {w w' : World} {A : Option Addr} {xs : List Value} (h : Lies w w.heap.size A xs) (ho : xs ≠ [] → ∀ p, A = some p → off p.block) (mv : Gm.Mvg off off' w w') : Lies w' w'.heap.size A xs := fun hn => by
  obtain ⟨ad, e, hb, hc⟩ := h hn
  have hne : xs ≠ [] := fun e => by rw [e] at hn; exact absurd hn (by simp)
  refine ⟨ad, e, Nat.lt_of_lt_of_le hb mv.size, fun j u hu => ?_⟩
  have := hc j u hu
  rw [World.cell?_of_block (w := w) (mv.block (ad.add j).block (by rw [Lies.add_block]; exact hb) (by rw [Lies.add_block]; exact ho hne ad e))]
  exact this
theorem icells_ne {xs : List Int} (h : icells xs ≠ []) : xs ≠ [] := fun e => h (by rw [e]; rfl)
theorem AOk.mv {off off' : Nat → Prop} {w w' : World} {A : Option Addr} {xs : List Int} (h : AOk off w A xs) (mv : Gm.Mvg off off' w w') : AOk off' w' A xs := by
  refine ⟨lies_mv h.li (fun hn => h.off (icells_ne hn)) mv, fun hn p hp => ?_⟩
  obtain ⟨ad, e, hb, _⟩ := h.li (by cases xs with | nil => exact absurd rfl hn | cons => simp [icells])
  rw [hp] at e
  cases e
  exact mv.keep _ hb (h.off hn p hp)
theorem AOk.imp {off off' : Nat → Prop} {w : World} {A : Option Addr} {xs : List Int} (h : AOk off w A xs) (hi : ∀ i, i < w.heap.size → off i → off' i) : AOk off' w A xs := by
  refine ⟨h.li, fun hn p hp => ?_⟩
  obtain ⟨ad, e, hb, _⟩ := h.li (by cases xs with | nil => exact absurd rfl hn | cons => simp [icells])
  rw [hp] at e
  cases e
  exact hi _ hb (h.off hn p hp)
theorem AOk.nil (off : Nat → Prop) (w : World) (A : Option Addr) : AOk off w A [] := ⟨fun h => absurd h (by simp [icells]), fun h => absurd rfl h⟩
def Args (off : Nat → Prop) (ds : List Dm) (w : World) : Prop := ∀ m ∈ ds, AOk off w m.A m.d.t.args
theorem Args.mv {off off' : Nat → Prop} {w w' : World} {ds : List Dm} (h : Args off ds w) (mv : Gm.Mvg off off' w w') : Args off' ds w' := fun m hm => (h m hm).mv mv
theorem Args.imp {off off' : Nat → Prop} {w : World} {ds : List Dm} (h : Args off ds w) (hi : ∀ i, i < w.heap.size → off i → off' i) : Args off' ds w := fun m hm => (h m hm).imp hi
theorem Args.app {off : Nat → Prop} {w : World} {a b : List Dm} (h : Args off a w) (k : Args off b w) : Args off (a ++ b) w := fun m hm => (List.mem_append.1 hm).elim (h m) (k m)

/-! The tree. -/
def TOff (X : Nat) (v : Value) (i : Nat) : Prop := i ≠ X ∧ some i ≠ v.ownBlock
structure Tr (X : Nat) (fs mk v : Value) (ds : List Dm) (w : World) : Prop where
  obj : w.heap[X]? = some (.cells #[fs, mk, v] 130 (0, 0))
  row : w.ownsRow 0 96 7 v ds.length (dcells ds)
  ne : v.ownBlock ≠ some X
/-! A task. -/
def KOff (T R : Nat) (u : Value) (i : Nat) : Prop := i ≠ T ∧ i ≠ R ∧ some i ≠ u.ownBlock
def tcs (R : Nat) (u : Value) (t : Tsk) (A : Option Addr) (c : Nat) (s : St) : Array Value :=
  #[.string t.path, .int .i64 t.fn, .slice A t.args.length c, .int .i64 (t.fuel : Int), .slice (some ⟨R, 0, none⟩) s.regs.length s.regs.length, .int .i64 (s.at_ : Int), .int .i64 (s.left : Int), .int .i64 (s.kids : Int), u]
structure Tk (T R : Nat) (u : Value) (t : Tsk) (A : Option Addr) (c : Nat) (s : St) (w : World) : Prop where
  obj : w.heap[T]? = some (.cells (tcs R u t A c s) 166 (0, 0))
  regs : w.heap[R]? = some (.cells (icells s.regs).toArray 2 (0, 0))
  row : w.ownsRow 0 246 3 u s.wts.length (wcells s.wts)
  ne : R ≠ T
  nu : u.ownBlock ≠ some T
  nr : u.ownBlock ≠ some R
section
variable {X T R : Nat} {fs mk v u : Value} {ds : List Dm} {t : Tsk} {A : Option Addr} {c : Nat} {s : St} {w w' : World}
theorem Tr.ltX (h : Tr X fs mk v ds w) : X < w.heap.size := ltH h.obj
theorem Tr.of (h : Tr X fs mk v ds w) (h1 : w'.heap[X]? = w.heap[X]?) (h2 : ∀ i, v.ownBlock = some i → w'.heap[i]? = w.heap[i]?) : Tr X fs mk v ds w' := ⟨h1.trans h.obj, Gm.ownsKeep h.row h2, h.ne⟩
theorem Tr.below (h : Tr X fs mk v ds w) (hb : Below w.heap.size w w') : Tr X fs mk v ds w' := h.of (hb.block _ h.ltX) fun i hi => hb.block i (h.row.lt i hi).2
theorem Tr.fresh (h : Tr X fs mk v ds w) {i : Nat} (hi : w.heap.size ≤ i) : TOff X v i := ⟨fun e => by have := h.ltX; omega, fun e => by have := (h.row.lt i e.symm).2; omega⟩
theorem Tr.x0 (h : Tr X fs mk v ds w) : w.cell? ⟨X, 0, none⟩ = some fs := cell_of_row _ _ 0 _ _ _ h.obj
theorem Tr.x1 (h : Tr X fs mk v ds w) : w.cell? ⟨X, 1, none⟩ = some mk := cell_of_row _ _ 1 _ _ _ h.obj
theorem Tr.x2 (h : Tr X fs mk v ds w) : w.cell? ⟨X, 2, none⟩ = some v := cell_of_row _ _ 2 _ _ _ h.obj
theorem Tr.xf (h : Tr X fs mk v ds w) (j : Nat) : w.frozen? ⟨X, j, none⟩ = false := frozen_of_row _ _ j _ _ h.obj
theorem Tk.ltT (h : Tk T R u t A c s w) : T < w.heap.size := ltH h.obj
theorem Tk.ltR (h : Tk T R u t A c s w) : R < w.heap.size := ltH h.regs
theorem Tk.of (h : Tk T R u t A c s w) (h1 : w'.heap[T]? = w.heap[T]?) (h2 : w'.heap[R]? = w.heap[R]?) (h3 : ∀ i, u.ownBlock = some i → w'.heap[i]? = w.heap[i]?) : Tk T R u t A c s w' := ⟨h1.trans h.obj, h2.trans h.regs, Gm.ownsKeep h.row h3, h.ne, h.nu, h.nr⟩
theorem Tk.below (h : Tk T R u t A c s w) (hb : Below w.heap.size w w') : Tk T R u t A c s w' := h.of (hb.block _ h.ltT) (hb.block _ h.ltR) fun i hi => hb.block i (h.row.lt i hi).2
theorem Tk.cell (h : Tk T R u t A c s w) (j : Nat) : w.cell? ⟨T, j, none⟩ = (tcs R u t A c s)[j]? := cell_of_row _ _ j _ _ _ h.obj
theorem Tk.fro (h : Tk T R u t A c s w) (j : Nat) : w.frozen? ⟨T, j, none⟩ = false := frozen_of_row _ _ j _ _ h.obj
theorem Tk.reg (h : Tk T R u t A c s w) {d : Nat} (hd : d < s.regs.length) : w.cell? ⟨R, d, none⟩ = some (.int .i64 s.regs[d]) := by
  rw [cell_of_row _ _ d _ _ _ h.regs]
  simpa using icells_at hd
theorem Tk.rfro (h : Tk T R u t A c s w) (j : Nat) : w.frozen? ⟨R, j, none⟩ = false := frozen_of_row _ _ j _ _ h.regs
/-- One cell of the task written. -/
theorem Tk.setT (h : Tk T R u t A c s w) (s' : St) (j : Nat) (x : Value) (hj : (tcs R u t A c s).setIfInBounds j x = tcs R u t A c s') (hr : s'.regs = s.regs) (hw : s'.wts = s.wts) : Tk T R u t A c s' (w.setCell ⟨T, j, none⟩ x) := by
  have hk : ∀ i, i ≠ T → (w.setCell ⟨T, j, none⟩ x).heap[i]? = w.heap[i]? := fun i hi => Below.heap_setCell _ _ _ _ hi
  refine ⟨?_, ?_, ?_, h.ne, h.nu, h.nr⟩
  · rw [heap_setCell_same _ _ _ _ _ _ h.obj, hj]
  · rw [hk R h.ne, hr]; exact h.regs
  · rw [hw]; exact Gm.ownsKeep h.row fun i hi => hk i fun e => h.nu (by rw [hi, e])
/-- One register written. -/
theorem Tk.setR (h : Tk T R u t A c s w) (s' : St) (d : Nat) (x : Int) (hr : s'.regs = s.regs.set d x) (ht : tcs R u t A c s' = tcs R u t A c s) (hw : s'.wts = s.wts) : Tk T R u t A c s' (w.setCell ⟨R, d, none⟩ (.int .i64 x)) := by
  have hk : ∀ i, i ≠ R → (w.setCell ⟨R, d, none⟩ (.int .i64 x)).heap[i]? = w.heap[i]? := fun i hi => Below.heap_setCell _ _ _ _ hi
  refine ⟨?_, ?_, ?_, h.ne, h.nu, h.nr⟩
  · rw [hk T (fun e => h.ne e.symm), ht]; exact h.obj
  · rw [heap_setCell_same _ _ _ _ _ _ h.regs, hr]
    unfold icells
    rw [List.map_set, List.setIfInBounds_toArray]
  · rw [hw]; exact Gm.ownsKeep h.row fun i hi => hk i fun e => h.nr (by rw [hi, e])
end

/-! Both, and what else is to stay. -/
def NOff (X T R : Nat) (v u : Value) (i : Nat) : Prop := TOff X v i ∧ KOff T R u i
structure NowE (K : Nat → Prop) (X T R : Nat) (fs mk v u : Value) (hd ds : List Dm) (t : Tsk) (A : Option Addr) (c : Nat) (s : St) (w : World) : Prop where
  tr : Tr X fs mk v (hd ++ ds) w
  tk : Tk T R u t A c s w
  told : ds.map Dm.d = s.done
  o1 : TOff X v T
  o2 : TOff X v R
  o3 : ∀ g, u.ownBlock = some g → TOff X v g
  args : Args (fun i => NOff X T R v u i ∧ K i) (hd ++ ds) w
  fresh : ∀ i, w.heap.size ≤ i → K i
/-- The program, and the map of what ops make. -/
structure Env (l : List Cd.Fm) (P : Option Addr) (M : Nat) (F : Value → Option Value) (off : Nat → Prop) (w : World) : Prop where
  prog : ∃ lo, lo ≤ w.heap.size ∧ Cd.Prog w lo P l ∧ ∀ i, i < lo → off i
  map : Gm.MapF 5 w M F 7
  moff : off M
section
variable {l : List Cd.Fm} {P : Option Addr} {M : Nat} {F : Value → Option Value} {off off' : Nat → Prop} {w w' : World}
theorem Env.mv (h : Env l P M F off w) (mv : Gm.Mvg off off' w w') : Env l P M F off' w' := by
  obtain ⟨lo, hlo, hp, ho⟩ := h.prog
  exact ⟨⟨lo, Nat.le_trans hlo mv.size, hp.keep (fun p hp => World.cell?_of_block (mv.block _ (Nat.lt_of_lt_of_le hp hlo) (ho _ hp))), fun i hi => mv.keep i (Nat.lt_of_lt_of_le hi hlo) (ho i hi)⟩, h.map.of_block (mv.block _ h.map.lt h.moff), mv.keep _ h.map.lt h.moff⟩
theorem mvg_imp (hi : ∀ i, i < w.heap.size → off i → off' i) : Gm.Mvg off off' w w := ⟨rfl, rfl, rfl, Nat.le_refl _, fun _ _ _ => rfl, hi⟩
theorem Env.imp (h : Env l P M F off w) (hi : ∀ i, i < w.heap.size → off i → off' i) : Env l P M F off' w := h.mv (mvg_imp hi)
theorem Env.pr (h : Env l P M F off w) : Cd.Prog w w.heap.size P l := by
  obtain ⟨lo, hlo, hp, _⟩ := h.prog
  exact hp.mono hlo
theorem mvg_set (h : Gm.Mvg off off' w w') {B : Nat} (hB : ∀ i, i < w.heap.size → off i → i ≠ B) (j : Nat) (x : Value) : Gm.Mvg off off' w (w'.setCell ⟨B, j, none⟩ x) :=
  ⟨h.os, h.tape, h.output, Nat.le_trans h.size (by simp [World.setCell]), fun i hi ho => (Below.heap_setCell _ _ _ _ (hB i hi ho)).trans (h.block i hi ho), h.keep⟩
end
section
variable {K : Nat → Prop} {X T R : Nat} {fs mk v u : Value} {hd ds : List Dm} {t : Tsk} {A : Option Addr} {c : Nat} {s : St} {w w' : World}
theorem NowE.below (h : NowE K X T R fs mk v u hd ds t A c s w) (hb : Below w.heap.size w w') : NowE K X T R fs mk v u hd ds t A c s w' :=
  ⟨h.tr.below hb, h.tk.below hb, h.told, h.o1, h.o2, h.o3, h.args.mv (Gm.Mvg.of_below hb), fun i hi => h.fresh i (Nat.le_trans hb.size hi)⟩
theorem NowE.drew (h : NowE K X T R fs mk v u hd ds t A c s w) : NowE K X T R fs mk v u hd ds t A c s w.drew := h.below (Below.refl _ _).drew
theorem mvg_drew {off off' : Nat → Prop} {w w' : World} (h : Gm.Mvg off off' w w') : Gm.Mvg off off' w w'.drew := ⟨h.os, h.tape, h.output, h.size, h.block, h.keep⟩
/-- A store into the task, or into its registers. -/
theorem NowE.own (h : NowE K X T R fs mk v u hd ds t A c s w) {B : Nat} (hB : B = T ∨ B = R) (j : Nat) (x : Value) (s' : St) (htk : Tk T R u t A c s' (w.setCell ⟨B, j, none⟩ x)) (hd' : s'.done = s.done) :
    NowE K X T R fs mk v u hd ds t A c s' (w.setCell ⟨B, j, none⟩ x) ∧ Gm.Mvg (NOff X T R v u) (NOff X T R v u) w (w.setCell ⟨B, j, none⟩ x) := by
  have hoff : TOff X v B := by rcases hB with rfl | rfl; exact h.o1; exact h.o2
  have hk : ∀ i, i ≠ B → (w.setCell ⟨B, j, none⟩ x).heap[i]? = w.heap[i]? := fun i hi => Below.heap_setCell _ _ _ _ hi
  have hne : ∀ i, NOff X T R v u i → i ≠ B := fun i hi e => by
    rcases hB with rfl | rfl
    · exact hi.2.1 e
    · exact hi.2.2.1 e
  refine ⟨⟨h.tr.of (hk X (fun e => hoff.1 e.symm)) fun i hi => hk i fun e => hoff.2 (by rw [← e]; exact hi.symm), htk, h.told.trans hd'.symm, h.o1, h.o2, h.o3, ?_, fun i hi => h.fresh i (by simpa [World.setCell] using hi)⟩, mvg_set (Gm.Mvg.refl _ _) (fun i _ ho => hne i ho) j x⟩
  exact h.args.mv (mvg_set (Gm.Mvg.refl _ _) (fun i _ ho => hne i ho.1) j x)
theorem NowE.setT (h : NowE K X T R fs mk v u hd ds t A c s w) (s' : St) (j : Nat) (x : Value) (hj : (tcs R u t A c s).setIfInBounds j x = tcs R u t A c s') (hr : s'.regs = s.regs) (hw : s'.wts = s.wts) (hd' : s'.done = s.done) :
    NowE K X T R fs mk v u hd ds t A c s' (w.setCell ⟨T, j, none⟩ x) ∧ Gm.Mvg (NOff X T R v u) (NOff X T R v u) w (w.setCell ⟨T, j, none⟩ x) := h.own (.inl rfl) j x s' (h.tk.setT s' j x hj hr hw) hd'
theorem NowE.setR (h : NowE K X T R fs mk v u hd ds t A c s w) (d : Nat) (x : Int) :
    NowE K X T R fs mk v u hd ds t A c { s with regs := s.regs.set d x } (w.setCell ⟨R, d, none⟩ (.int .i64 x)) ∧ Gm.Mvg (NOff X T R v u) (NOff X T R v u) w (w.setCell ⟨R, d, none⟩ (.int .i64 x)) :=
  h.own (.inr rfl) d _ _ (h.tk.setR _ d x rfl (by unfold tcs; simp only [List.length_set]) rfl) rfl
/-- The task has no children to join any more. -/
theorem NowE.none8 (h : NowE K X T R fs mk v u hd ds t A c s w) :
    NowE K X T R fs mk v (.slice none 0 0) hd ds t A c { s with wts := [] } (w.setCell ⟨T, 8, none⟩ (.slice none 0 0)) ∧ Gm.Mvg (NOff X T R v u) (NOff X T R v (.slice none 0 0)) w (w.setCell ⟨T, 8, none⟩ (.slice none 0 0)) := by
  have hk : ∀ i, i ≠ T → (w.setCell ⟨T, 8, none⟩ (.slice none 0 0)).heap[i]? = w.heap[i]? := fun i hi => Below.heap_setCell _ _ _ _ hi
  have mv : Gm.Mvg (NOff X T R v u) (NOff X T R v (.slice none 0 0)) w (w.setCell ⟨T, 8, none⟩ (.slice none 0 0)) :=
    ⟨rfl, rfl, rfl, by simp [World.setCell], fun i _ ho => hk i ho.2.1, fun i _ ho => ⟨ho.1, ho.2.1, ho.2.2.1, by simp [Value.ownBlock]⟩⟩
  refine ⟨⟨h.tr.of (hk X (fun e => h.o1.1 e.symm)) fun i hi => hk i fun e => h.o1.2 (by rw [← e]; exact hi.symm), ⟨?_, (hk R h.tk.ne).trans h.tk.regs, ⟨rfl, .inl ⟨rfl, rfl⟩⟩, h.tk.ne, by simp [Value.ownBlock], by simp [Value.ownBlock]⟩, h.told, h.o1, h.o2, fun g hg => by simp [Value.ownBlock] at hg, ?_, fun i hi => h.fresh i (by simpa [World.setCell] using hi)⟩, mv⟩
  · rw [heap_setCell_same _ _ _ _ _ _ h.tk.obj]
    rfl
  · exact h.args.mv ⟨mv.os, mv.tape, mv.output, mv.size, fun i hi ho => mv.block i hi ho.1, fun i hi ho => ⟨mv.keep i hi ho.1, ho.2⟩⟩
theorem NowE.lt (h : NowE K X T R fs mk v u hd ds t A c s w) : ∀ i, w.heap.size ≤ i → NOff X T R v u i := fun i hi =>
  ⟨h.tr.fresh hi, fun e => by have := h.tk.ltT; omega, fun e => by have := h.tk.ltR; omega, fun e => by have := (h.tk.row.lt i e.symm).2; omega⟩
end
end Ev
end Go.Proofs.YtepnofklmdofmaaGreatDoor
end

section
namespace Go.Proofs.YtepnofklmdofmaaGreatDoor
open Go.RowKit

namespace Ev
/-- The function of an op's kind. -/
def fno (k : Nat) : Nat := match k with
  | 3 => 73
  | 4 => 74
  | 5 => 75
  | 6 => 76
  | 7 => 77
  | 8 => 78
  | _ => 80
def fnv (k : Nat) : Value := .func (.func (fno k)) #[] #[]
def mF (n : Nat) (x : Value) : Option Value := match x with | .int .u8 i => if 3 ≤ i ∧ i < ((n + 3 : Nat) : Int) then some (fnv i.toNat) else none | _ => none
theorem mF_in {n i : Nat} (h1 : 3 ≤ i) (h2 : i < n + 3) : mF n (.int .u8 (i : Int)) = some (fnv i) := by
  unfold mF
  simp only []
  rw [if_pos (by omega)]
  simp
theorem mF_out {n i : Nat} (h : ¬ (3 ≤ i ∧ i < n + 3)) : mF n (.int .u8 (i : Int)) = none := by
  unfold mF
  simp only []
  rw [if_neg (by omega)]
theorem mF_other {n : Nat} {y : Value} (hy : y ≠ .int .u8 ((n + 3 : Nat) : Int)) : mF (n + 1) y = mF n y := by
  unfold mF
  split
  · rename_i i
    have : (3 ≤ i ∧ i < ((n + 1 + 3 : Nat) : Int)) ↔ (3 ≤ i ∧ i < ((n + 3 : Nat) : Int)) := by
      by_cases e : i = ((n + 3 : Nat) : Int)
      · exact absurd (by rw [e]) hy
      · constructor <;> intro h <;> omega
    simp only [this]
  · rfl
/-- The map as it is being filled. -/
structure MS (w0 : World) (B n : Nat) (w : World) : Prop where
  m : Gm.MapF 5 w B (mF n) n
  bel : Below w0.heap.size w0 w
  lo : w0.heap.size ≤ B
section
variable {w0 w w' : World} {B n : Nat}
theorem MS.put (h : MS w0 B n w) (hn : n < 7) : ∃ w', (Instr.mapUpdate 127 (.map (some B)) (.int .u8 ((n + 3 : Nat) : Int)) (fnv (n + 3))).run Tryz.prog w = .ok () w' ∧ MS w0 B (n + 1) w' := by
  obtain ⟨w', hr, hm, hg⟩ := h.m.put Gm.key8 Tryz.underlying127 (by unfold maxLen; omega) (Gm.isKey8 (a := ((n + 3 : Nat) : Int)) (by omega) (by omega)) (fnv (n + 3)) (mF (n + 1)) (mF_in (by omega) (by omega)) (fun y hy => mF_other hy)
  rw [mF_out (by omega)] at hm
  exact ⟨w', hr, ⟨hm, h.bel.grown hg h.bel.size (fun k hk => by cases hk; exact h.lo), h.lo⟩⟩
end
theorem mins {w0 w : World} {B n : Nat} (h : MS w0 B n w) {ops : Array Oper} {rest : List Oper} {o : Oper} {a : Act} {Q : Exit → Act → World → Prop} (hg : o.guard = none) (m x y : Operand) (hop : o.op = Op.insert 127 m x y)
    (hd : o.dst = none) (hm : a.eval m = .map (some B)) (i : Int) (hx : a.eval x = .int .u8 i) (hy : a.eval y = fnv (n + 3)) (hi : ((n + 3 : Nat) : Int) = i) (hn : n < 7)
    (hK : ∀ w', MS w0 B (n + 1) w' → wpList Tryz.prog ops Q rest a w') : wpList Tryz.prog ops Q (o :: rest) a w := by
  subst hi
  obtain ⟨w', hr, hk⟩ := h.put hn
  exact Cd.gpl_ins w hg m x y _ hop _ _ _ hm hx hy w' hr (by rw [hd]; exact hK w' hk)
end Ev

set_option maxHeartbeats 500000 in
set_option maxRecDepth 20000 in
theorem emakes (w : World) : Calls Tryz.prog 51 #[] w fun e w' => ∃ B, e = .returned (.map (some B)) ∧ Ev.MS w B 7 w' := by
  have hmm := @run_makeMap Tryz.prog
  have HK : Hid (Ev.MS w w.heap.size 0 (w.alloc (.map #[] 0))) := by
    have := Gm.MapF.made w 5
    refine ⟨?_, (Below.refl _ _).alloc (Nat.le_refl _) _, Nat.le_refl _⟩
    exact this.congr (g := Ev.mF 0) (fun x _ => by unfold Ev.mF; split <;> first | rfl | (rw [if_neg (by omega)]))
  go_enter Tryz.func51, Tryz.ntmps51
  go_upto_region 1 with fail
  refine Cd.wp_region_any fun O => ?_
  go_wp2_with (refine Cd.at_ins rfl ?_; refine Ev.mins HK.out rfl _ _ _ rfl rfl rfl _ rfl rfl (by decide) (by decide) ?_; intro wn hk; have HK := Lib.hid hk; clear hk)
  go_ret
  exact ⟨_, rfl, HK.out⟩

namespace Ev
theorem wrap_some (x : Int) : some (IntKind.i64.wrap x) = some (wrap64 x) := by rw [IntKind.wrap_i64, wrap64]
def CalcP (k : Nat) (a b : Int) (w : World) (e : Ending) (w' : World) : Prop := ∃ x, calcV k a b = some x ∧ e = .returned (.int .i64 x) ∧ w = w'
end Ev
theorem etruth (b : Bool) (w : World) : Calls Tryz.prog 79 #[.bool b] w fun e w' => e = .returned (.int .i64 (if b then 1 else 0)) ∧ w = w' := by
  cases b
  all_goals
    go_enter Tryz.func79, Tryz.ntmps79
    go_wp2_with fail
    go_ret
    exact ⟨rfl, rfl⟩
theorem edivides (k : Nat) (w : World) : Calls Tryz.prog 147 #[.int .u8 (k : Int)] w fun e w' => e = .returned (.bool (decide (k = 6) || decide (k = 7))) ∧ w = w' := by
  by_cases h6 : k = 6
  · subst h6
    go_enter Tryz.func147, Tryz.ntmps147
    go_wp2_with fail
    go_ret
    exact ⟨rfl, rfl⟩
  · have e6 : ((k : Int) == 6) = false := by rw [beq_eq_false_iff_ne]; omega
    have e7 : ((k : Int) == 7) = decide (k = 7) := by
      rw [Bool.eq_iff_iff, beq_iff_eq, decide_eq_true_iff]
      omega
    rw [decide_eq_false h6, Bool.false_or]
    generalize decide (k = 7) = b7 at e7 ⊢
    clear h6
    go_enter Tryz.func147, Tryz.ntmps147
    go_wp2_with fail
    go_ret
    exact ⟨by first | rfl | rw [e7], rfl⟩
set_option maxRecDepth 20000 in
theorem ecalc (k : Nat) (h3 : 3 ≤ k) (h9 : k ≤ 9) (a b : Int) (hb : (k = 6 ∨ k = 7) → b ≠ 0) (w : World) : Calls Tryz.prog (Ev.fno k) #[.int .i64 a, .int .i64 b] w (Ev.CalcP k a b w) := by
  obtain rfl | rfl | rfl | rfl | rfl | rfl | rfl : k = 3 ∨ k = 4 ∨ k = 5 ∨ k = 6 ∨ k = 7 ∨ k = 8 ∨ k = 9 := by omega
  · show Calls Tryz.prog 73 _ _ _
    go_enter Tryz.func73, Tryz.ntmps73
    go_wp2_with fail
    go_ret
    exact ⟨_, Ev.wrap_some _, rfl, rfl⟩
  · show Calls Tryz.prog 74 _ _ _
    go_enter Tryz.func74, Tryz.ntmps74
    go_wp2_with fail
    go_ret
    exact ⟨_, Ev.wrap_some _, rfl, rfl⟩
  · show Calls Tryz.prog 75 _ _ _
    go_enter Tryz.func75, Tryz.ntmps75
    go_wp2_with fail
    go_ret
    exact ⟨_, Ev.wrap_some _, rfl, rfl⟩
  · show Calls Tryz.prog 76 _ _ _
    have hz := hb (.inl rfl)
    clear hb
    go_enter Tryz.func76, Tryz.ntmps76
    go_wp2_with fail
    go_ret
    exact ⟨_, by rw [← Ev.wrap_some]; unfold Ev.calcV; simp [hz], rfl, rfl⟩
  · show Calls Tryz.prog 77 _ _ _
    have hz := hb (.inr rfl)
    clear hb
    go_enter Tryz.func77, Tryz.ntmps77
    go_wp2_with fail
    go_ret
    exact ⟨_, by unfold Ev.calcV; simp [hz], rfl, rfl⟩
  · show Calls Tryz.prog 78 _ _ _
    clear hb
    by_cases h : a < b
    · have HE : Hid (Ev.calcV 8 a b = some 1) := by show Ev.calcV 8 a b = _; unfold Ev.calcV; simp [h]
      have H8 := Lib.hid (etruth true w)
      go_enter Tryz.func78, Tryz.ntmps78
      go_wp2_with fail
      refine H8.out.mono ?_
      rintro e w1 ⟨rfl, rfl⟩
      go_wp2_with fail
      go_ret
      exact ⟨_, HE.out, rfl, rfl⟩
    · have HE : Hid (Ev.calcV 8 a b = some 0) := by show Ev.calcV 8 a b = _; unfold Ev.calcV; simp [h]
      have H8 := Lib.hid (etruth false w)
      go_enter Tryz.func78, Tryz.ntmps78
      go_wp2_with fail
      refine H8.out.mono ?_
      rintro e w1 ⟨rfl, rfl⟩
      go_wp2_with fail
      go_ret
      exact ⟨_, HE.out, rfl, rfl⟩
  · show Calls Tryz.prog 80 _ _ _
    clear hb
    by_cases h : a = b
    · have HE : Hid (Ev.calcV 9 a b = some 1) := by show Ev.calcV 9 a b = _; unfold Ev.calcV; simp [h]
      have H8 := Lib.hid (etruth true w)
      have hq : (a == b) = true := by simpa using h
      clear h
      go_enter Tryz.func80, Tryz.ntmps80
      go_wp2_with fail
      refine H8.out.mono ?_
      rintro e w1 ⟨rfl, rfl⟩
      go_wp2_with fail
      go_ret
      exact ⟨_, HE.out, rfl, rfl⟩
    · have HE : Hid (Ev.calcV 9 a b = some 0) := by show Ev.calcV 9 a b = _; unfold Ev.calcV; simp [h]
      have H8 := Lib.hid (etruth false w)
      have hq : (a == b) = false := by simpa using h
      clear h
      go_enter Tryz.func80, Tryz.ntmps80
      go_wp2_with fail
      refine H8.out.mono ?_
      rintro e w1 ⟨rfl, rfl⟩
      go_wp2_with fail
      go_ret
      exact ⟨_, HE.out, rfl, rfl⟩
end Go.Proofs.YtepnofklmdofmaaGreatDoor
end

section
namespace Go.Proofs.YtepnofklmdofmaaGreatDoor
open Go.RowKit

namespace Ev
def begR (t : Tsk) (n : Nat) : List Int := t.args ++ List.replicate (n - t.args.length) 0
theorem begR_len {t : Tsk} {n : Nat} (h : t.args.length ≤ n) : (begR t n).length = n := by unfold begR; rw [List.length_append, List.length_replicate]; omega
def beg0 (t : Tsk) (n : Nat) : St := ⟨begR t n, 0, t.fuel, 0, [], []⟩
theorem start_beg (p : List Cd.FnV) (t : Tsk) : start p t = beg0 t (fnOf p t).regs.toNat := rfl
theorem i64_size : (Tryz.prog.info? 2).map (·.size) = some 1 := by
  obtain ⟨i, hi, hz⟩ := Option.map_eq_some_iff.1 i64_info
  simp only [Prod.mk.injEq] at hz
  rw [hi]
  exact congrArg some hz.2.1
theorem oneCells (l : List Int) : ∀ v ∈ icells l, v.oneCell' = true := fun v hv => by
  obtain ⟨x, _, rfl⟩ := List.mem_map.1 hv
  rfl
theorem begR_row (t : Tsk) (n : Nat) : ((madeCells #[.int .i64 0] n).toList.take 0 ++ icells t.args ++ (madeCells #[.int .i64 0] n).toList.drop (0 + (icells t.args).length)).toArray = (icells (begR t n)).toArray := by
  rw [toList_madeCells_one]
  unfold begR icells
  simp
theorem copy_none (w : World) (ty : TypeId) (g n c : Nat) (A : Option Addr) : (Builtin.copy_ #[25, 25] ty #[.slice (some ⟨g, 0, none⟩) n n, .slice A 0 c]).run Tryz.prog w = .ok (goInt 0) w := by
  obtain ⟨i, hq, -⟩ := Option.map_eq_some_iff.1 i64_info
  cases A <;> simp [Builtin.copy_, run_underlying (P := Tryz.prog) Tryz.underlying25, Builtin.lenOf, Builtin.firstCells, sizeOf, typeInfo, hq, storeCells, loadCells, loadCellsFrom]
/-- The arguments are copied into fresh registers. -/
theorem copy_args (w : World) (ty : TypeId) (R n c : Nat) (A : Option Addr) (t : Tsk) (hn : t.args.length ≤ n) (hR : w.heap[R]? = some (.cells (madeCells #[.int .i64 0] n) 2 (0, 0))) (hl : Lies w w.heap.size A (icells t.args)) :
    ∃ w', (Builtin.copy_ #[25, 25] ty #[.slice (some ⟨R, 0, none⟩) n n, .slice A t.args.length c]).run Tryz.prog w = .ok (goInt t.args.length) w' ∧ w'.heap[R]? = some (.cells (icells (begR t n)).toArray 2 (0, 0)) ∧ w.grownBy w' (some R) := by
  have hlen : (icells t.args).length = t.args.length := by unfold icells; simp
  by_cases h0 : t.args.length = 0
  · refine ⟨w, by rw [h0]; exact copy_none w ty R n c A, ?_, World.grownBy.refl _ _⟩
    rw [hR, ← begR_row t n, hlen, h0, List.length_eq_zero_iff.1 h0]
    simp [icells]
  · obtain ⟨ad, rfl, _, hc⟩ := hl (by rw [hlen]; omega)
    have hs : (madeCells #[.int .i64 0] n).size = n := size_madeCells ..
    have hr := run_copy_row (P := Tryz.prog) w 25 25 ty 2 R 0 n n ad t.args.length c (madeCells #[.int .i64 0] n) 2 (icells t.args) Tryz.underlying25 i64_size hR (by rw [hlen]; exact (Nat.min_eq_left hn).symm) hc (by rw [hlen, hs]; omega) (oneCells _)
    rw [begR_row t n, hlen] at hr
    exact ⟨_, hr, setRow_heap _ _ _ _ _ _ hR, ⟨rfl, rfl, rfl, by simp, fun k _ hne => setRow_other w R k _ (fun e => hne (by rw [e]))⟩⟩
/-- A task that was begun. -/
def BegP (t : Tsk) (A : Option Addr) (c n : Nat) (w : World) (e : Ending) (w' : World) : Prop := ∃ T R, e = .returned (.pointer (some ⟨T, 0, none⟩)) ∧ Tk T R (.slice none 0 0) t A c (beg0 t n) w' ∧ Below w.heap.size w w' ∧ w.heap.size ≤ T ∧ w.heap.size ≤ R
end Ev

set_option maxHeartbeats 1000000 in
set_option maxRecDepth 20000 in
theorem ebegin (t : Ev.Tsk) (A : Option Addr) (c n : Nat) (x0 x2 : Value) (w : World) (hl : Lies w w.heap.size A (icells t.args)) (hn : n ≤ 16) (ha : t.args.length ≤ n) :
    Calls Tryz.prog 81 #[t.val A c, .agg #[x0, .int .i64 (n : Int), x2]] w (Ev.BegP t A c n w) := by
  have hmk : ∀ w : World, (Instr.makeSlice 25 (.int .i64 (n : Int)) (.int .i64 (n : Int))).run Tryz.prog w = .ok (.slice (some ⟨w.heap.size, 0, none⟩) n n) (w.alloc (.cells (madeCells #[.int .i64 0] n) 2)) := run_make_row' (P := Tryz.prog) 25 2 (.int .i64 0) 8 Tryz.underlying25 Ev.i64_info rfl .i64 .i64 n (by omega) (by omega)
  obtain ⟨V1, hV1⟩ : ∃ V, V = w.alloc (.cells (t.arr A c) 41) := ⟨_, rfl⟩
  obtain ⟨V2, hV2⟩ : ∃ V, V = V1.alloc (.cells #[x0, .int .i64 (n : Int), x2] 107) := ⟨_, rfl⟩
  unfold Ev.Tsk.val
  unfold Ev.Tsk.arr at hV1
  go_enter Tryz.func81, Tryz.ntmps81
  go_upto_region 1 with fail
  rw [← hV1, ← hV2]
  have hb1 : Below w.heap.size w V1 := by rw [hV1]; exact Cd.fn1 _ _ _
  have hb2 : Below V1.heap.size V1 V2 := by rw [hV2]; exact Cd.fn1 _ _ _
  have hs1 : V1.heap.size = w.heap.size + 1 := by rw [hV1]; simp
  have hs2 : V2.heap.size = V1.heap.size + 1 := by rw [hV2]; simp
  have hO : V2.heap[w.heap.size]? = some (.cells (t.arr A c) 41 (0, 0)) := by rw [hb2.block _ (by omega), hV1]; exact heap_alloc_new w _
  have hF : V2.heap[w.heap.size + 1]? = some (.cells #[x0, .int .i64 (n : Int), x2] 107 (0, 0)) := by rw [← hs1, hV2]; exact heap_alloc_new V1 _
  have hB := hb1.trans (hb2.mono hb1.size)
  have HLI := Lib.hid ((hl.below hB).mono hB.size)
  have HS : Hid (V2.heap.size = w.heap.size + 2) := by show _ = _; omega
  have HB := Lib.hid hB
  have HO := Lib.hid hO
  obtain ⟨Z, hZ⟩ : ∃ Z, Z = w.heap.size := ⟨_, rfl⟩
  rw [← hZ] at hO hF HS HB HO ⊢
  have a0 : V2.cell? ⟨Z, 0, none⟩ = some (.string t.path) := cell_of_row _ _ 0 _ _ _ hO
  have a1 : V2.cell? ⟨Z, 1, none⟩ = some (.int .i64 t.fn) := cell_of_row _ _ 1 _ _ _ hO
  have a2 : V2.cell? ⟨Z, 2, none⟩ = some (.slice A t.args.length c) := cell_of_row _ _ 2 _ _ _ hO
  have a3 : V2.cell? ⟨Z, 3, none⟩ = some (.int .i64 (t.fuel : Int)) := cell_of_row _ _ 3 _ _ _ hO
  have f1 : V2.cell? ⟨Z + 1, 1, none⟩ = some (.int .i64 (n : Int)) := cell_of_row _ _ 1 _ _ _ hF
  have HN := Lib.hid hn
  have HA := Lib.hid ha
  have HZ := Lib.hid hZ
  clear hV1 hV2 hb1 hb2 hs1 hs2 hO hF hB hl ha hn hZ
  have hk : ∀ j, (V2.alloc (.cells (madeCells #[.int .i64 0] n) 2)).cell? ⟨Z, j, none⟩ = V2.cell? ⟨Z, j, none⟩ := fun j => World.cell?_of_block (w := V2) (Below.heap_alloc _ _ _ (show _ < _ by have := HS.out; simp only []; omega))
  have hk2 : ∀ j, (V2.alloc (.cells (madeCells #[.int .i64 0] n) 2)).cell? ⟨Z + 1, j, none⟩ = V2.cell? ⟨Z + 1, j, none⟩ := fun j => World.cell?_of_block (w := V2) (Below.heap_alloc _ _ _ (show _ < _ by have := HS.out; simp only []; omega))
  have b0 := (hk 0).trans a0
  have b1 := (hk 1).trans a1
  have b2 := (hk 2).trans a2
  have b3 := (hk 3).trans a3
  clear hk hk2
  obtain ⟨V3, hV3⟩ : ∃ V, V = V2.alloc (.cells (madeCells #[.int .i64 0] n) 2) := ⟨_, rfl⟩
  obtain ⟨R, hRe⟩ : ∃ R, R = V2.heap.size := ⟨_, rfl⟩
  obtain ⟨V4, hV4⟩ : ∃ V, V = (V3.alloc (.cells (Ev.tcs R (.slice none 0 0) t A c ⟨List.replicate n 0, 0, t.fuel, 0, [], []⟩) 166)).drew := ⟨_, rfl⟩
  have hb3 : Below V2.heap.size V2 V3 := by rw [hV3]; exact Cd.fn1 _ _ _
  have hs3 : V3.heap.size = R + 1 := by rw [hV3, hRe]; simp
  have hb4 : Below V3.heap.size V3 V4 := by rw [hV4]; exact (Cd.fn1 _ _ _).drew
  have hR3 : V3.heap[R]? = some (.cells (madeCells #[.int .i64 0] n) 2 (0, 0)) := by rw [hV3, hRe]; exact heap_alloc_new V2 _
  have hR4 := (hb4.block R (by omega)).trans hR3
  have hT4 : V4.heap[R + 1]? = some (.cells (Ev.tcs R (.slice none 0 0) t A c ⟨List.replicate n 0, 0, t.fuel, 0, [], []⟩) 166 (0, 0)) := by rw [← hs3, hV4]; exact heap_alloc_new V3 _
  have hB4 : Below V2.heap.size V2 V4 := hb3.trans (hb4.mono hb3.size)
  have hO4 := (hB4.block Z (by have := HS.out; omega)).trans HO.out
  have hLI4 := (HLI.out.below hB4).mono hB4.size
  have HB4 := Lib.hid (HB.out.trans (hB4.mono (by have h1 := HZ.out; have h2 := HB.out.size; omega)))
  have HZR : Hid (w.heap.size = Z ∧ R = Z + 2) := by
    have h1 := HZ.out
    have h2 := HS.out
    exact ⟨by omega, by omega⟩
  go_region
  go_upto_region 2 with fail
  have hW : ((V2.alloc (.cells (madeCells #[.int .i64 0] n) 2)).alloc (.cells #[.string t.path, .int .i64 t.fn, .slice A t.args.length c, .int .i64 (t.fuel : Int), .slice (some ⟨V2.heap.size, 0, none⟩) n n, .int .i64 0, .int .i64 (t.fuel : Int), .int .i64 0, .slice none 0 0] 166)).drew = V4 := by
    rw [hV4, hV3, hRe]
    unfold Ev.tcs
    simp only [List.length_replicate]
    rfl
  rw [hW, ← hRe]
  clear hW hV3 hV4 hRe hb3 hs3 hb4 hR3 hB4 b0 b1 b2 b3 a0 a1 a2 a3 f1 hmk HS HO HB HLI HZ
  have HC := Lib.hid (fun ty => Ev.copy_args V4.drew ty R n c A t HA.out hR4 hLI4)
  obtain ⟨w5, hcp, hR5, hg5⟩ := HC.out 3
  have t4 : V4.cell? ⟨R + 1, 4, none⟩ = some (.slice (some ⟨R, 0, none⟩) n n) := by
    rw [cell_of_row _ _ 4 _ _ _ hT4]
    unfold Ev.tcs
    simp only [List.length_replicate]
    rfl
  have o2 : V4.cell? ⟨Z, 2, none⟩ = some (.slice A t.args.length c) := cell_of_row _ _ 2 _ _ _ hO4
  have HFIN : Hid (Ev.BegP t A c n w (.returned (.pointer (some ⟨R + 1, 0, none⟩))) w5) := by
    have h1 : w5.heap[R + 1]? = V4.heap[R + 1]? := hg5.block (R + 1) (Cd.ltH (w := V4.drew) hT4) (by simp)
    have hl : (Ev.begR t n).length = n := Ev.begR_len HA.out
    have h2 := HZR.out
    refine ⟨R + 1, R, rfl, ⟨?_, hR5, ⟨rfl, .inl ⟨rfl, rfl⟩⟩, by omega, by simp [Value.ownBlock], by simp [Value.ownBlock]⟩, (by rw [h2.1]; exact (HB4.out.drew).grown hg5 (by have := HB4.out.drew.size; omega) (fun k hk => by cases hk; omega)), by omega, by omega⟩
    rw [h1, hT4]
    unfold Ev.tcs Ev.beg0
    simp only [hl, List.length_replicate]
  clear HC hR4 hT4 hLI4 hR5 hg5 hO4
  go_region
  go_wp2
  go_ret
  exact HFIN.out
end Go.Proofs.YtepnofklmdofmaaGreatDoor
end

section
namespace Go.Proofs.YtepnofklmdofmaaGreatDoor
open Go.RowKit

namespace Ev
/-- append(l, x) of one int64, at a region's list. -/
theorem lpush {ops : Array Oper} {rest : List Oper} {oo : Oper} {a : Act} {w : World} {Q : Exit → Act → World → Prop} {T1 : TypeId} {base n b : Nat} {v : Value} {xs : List Value}
    (hrow : w.ownsRow base 2 1 v n xs) (hgd : oo.guard = none) (s x : Operand)
    (hop : oo.op = .call { callee := .builtin .append, args := #[s, x], argTypes := #[25, 25] }) (hs : a.eval s = v) (hx : a.eval x = .slice (some ⟨b, 0, none⟩) 1 1) (z : Int) (hb : w.heap.size = b) (hn : n ≤ 100000) (hbase : base ≤ w.heap.size)
    (h : ∀ g cap w', w'.ownsRow base 2 1 (.slice (some ⟨g, 0, none⟩) (n + 1) cap) (n + 1) (xs ++ icells [z]) → (w.alloc (.cells #[.int .i64 z] T1)).grownBy w' v.ownBlock → wpList Tryz.prog ops Q rest (a.put oo.dst (.slice (some ⟨g, 0, none⟩) (n + 1) cap)) w') :
    wpList Tryz.prog ops Q (oo :: rest) a (w.alloc (.cells #[.int .i64 z] T1)) := by
  obtain ⟨i, hi, hz⟩ := Option.map_eq_some_iff.1 i64_info
  simp only [Prod.mk.injEq] at hz
  obtain ⟨z1, z2, z3⟩ := hz
  subst hb
  refine wpList_append_lies _ hgd s x 25 hop base 2 i (.int .i64 0) 1 8 Tryz.underlying25 hi z1 z2 z3 rfl (by decide) v n xs hs (hrow.alloc _) ⟨w.heap.size, 0, none⟩ 1 1 (icells [z]) hx rfl
    (fun j u hu => World.news_of_block (heap_alloc_new w (.cells #[.int .i64 z] T1)) j u hu) (by simp [icells, Value.oneCell']) (by decide) (by unfold maxLen; omega) (by omega) (by simp; omega) (w.heap.size + 1) (by simp) ?_
  intro g cap w' h1 h2 _ _
  exact h g cap w' h1 h2
/-- A row of registers from a on. -/
def regsOf (l : List Int) (a n : Nat) : List Int := (l.drop a).take n
theorem regsOf_succ {l : List Int} {a k : Nat} (h : a + k < l.length) : regsOf l a (k + 1) = regsOf l a k ++ [l[a + k]] := by
  unfold regsOf
  rw [List.take_add_one]
  congr 1
  rw [List.getElem?_drop, List.getElem?_eq_getElem h]
  rfl
theorem regsOf_len {l : List Int} {a k : Nat} (h : a + k ≤ l.length) : (regsOf l a k).length = k := by
  unfold regsOf
  rw [List.length_take, List.length_drop]
  omega
theorem icells_snoc (a : List Int) (x : Int) : icells (a ++ [x]) = icells a ++ icells [x] := by unfold icells; rw [List.map_append]
def ArgsP (xs : List Int) (w : World) (e : Ending) (w' : World) : Prop := ∃ A c, e = .returned (.slice A xs.length c) ∧ Lies w' w'.heap.size A (icells xs) ∧ (xs ≠ [] → ∀ p, A = some p → w.heap.size ≤ p.block) ∧ Below w.heap.size w w'
end Ev

set_option maxHeartbeats 1000000 in
set_option maxRecDepth 20000 in
theorem eargs {T R : Nat} {u : Value} {t : Ev.Tsk} {A0 : Option Addr} {c0 : Nat} {s : Ev.St} {w : World} (h : Ev.Tk T R u t A0 c0 s w) (a n : Nat) (ha : n = 0 ∨ a + n ≤ s.regs.length) (hl : s.regs.length ≤ 16) (ha16 : a ≤ 16) :
    Calls Tryz.prog 146 #[.pointer (some ⟨T, 0, none⟩), .int .i64 (a : Int), .int .i64 (n : Int)] w (Ev.ArgsP (Ev.regsOf s.regs a n) w) := by
  have H := Lib.hid h
  have HA := Lib.hid ha
  have HN : Hid (n ≤ 16) := by show n ≤ 16; omega
  have hls : Hid (s.regs.length ≤ 16) := hl
  clear h ha hl
  go_enter Tryz.func146, Tryz.ntmps146
  go_wp2_with fail
  go_loopw [7, 10] (fun s7 s10 wr => ∃ (k : Nat) (A2 : Option Addr) (c2 : Nat), k ≤ n ∧ s7 = .slice A2 k c2 ∧ s10 = .int .i64 k ∧ Hid (wr.ownsRow w.heap.size 2 1 (.slice A2 k c2) k (icells (Ev.regsOf s.regs a k)) ∧ Below w.heap.size w wr)) (fun _ s10 _ => n - (intOf s10).toNat)
  case atStart => exact ⟨0, none, 0, Nat.zero_le _, rfl, rfl, ⟨by unfold Ev.regsOf icells; simp, .inl ⟨rfl, rfl⟩⟩, Below.refl _ _⟩
  case round =>
    obtain ⟨k, A2, c2, hk, rfl, rfl, HK⟩ := hrel
    by_cases hlt : k < n
    · have k0 : (0 : Int) ≤ (k : Int) := by omega
      have k1 : (k : Int) < (n : Int) := by omega
      have hak : a + k < s.regs.length := by rcases HA.out with h | h <;> omega
      have HT := H.out.below HK.out.2
      have t4 : wr.cell? ⟨T, 4, none⟩ = some (.slice (some ⟨R, 0, none⟩) s.regs.length s.regs.length) := HT.cell 4
      have r0 : wr.cell? ⟨R, a + k, none⟩ = some (.int .i64 s.regs[a + k]) := HT.reg hak
      have HS := Lib.hid (Ev.regsOf_succ hak)
      have i0 : (0 : Int) ≤ (a : Int) + (k : Int) := by omega
      have i1 : (a : Int) + (k : Int) < (s.regs.length : Int) := by omega
      have i2 : (a : Int) + (k : Int) ≤ 9223372036854775807 := by have := hls.out; omega
      generalize s.regs[a + k] = x at r0 HS
      clear hlt HT
      have hk100 : k ≤ 100000 := by have := HN.out; omega
      have hbs : w.heap.size ≤ wr.heap.size := HK.out.2.size
      go_wp2_with (refine Cd.at_app rfl ?_; refine Ev.lpush HK.out.1 rfl _ _ rfl rfl rfl x (by first | with_reducible rfl | rfl) hk100 hbs ?_; intro g cap w6 hown hgr)
      have HNEW : Hid (w6.ownsRow w.heap.size 2 1 (.slice (some ⟨g, 0, none⟩) (k + 1) cap) (k + 1) (icells (Ev.regsOf s.regs a (k + 1))) ∧ Below w.heap.size w w6) := by
        refine ⟨?_, ?_⟩
        · rw [HS.out, Ev.icells_snoc]
          exact hown
        · have hb := HK.out.2.trans ((Cd.fn1 wr #[.int .i64 x] 2).mono HK.out.2.size)
          exact hb.grown hgr hb.size (fun q hq => (HK.out.1.lt q hq).1)
      clear hown hgr hbs
      go_wp2_with fail
      go_roundw
      case rel => exact ⟨k + 1, some ⟨g, 0, none⟩, cap, by omega, rfl, by go_num, HNEW.out⟩
      case measure => simp [intOf]; omega
    · have k1 : ¬ (k : Int) < (n : Int) := by omega
      obtain rfl : k = n := by omega
      clear hlt
      go_wp2_with fail
      go_ret
      have hlen : (Ev.regsOf s.regs a k).length = k := by
        rcases HA.out with rfl | h
        · unfold Ev.regsOf; simp
        · exact Ev.regsOf_len h
      refine ⟨A2, c2, by rw [hlen]; rfl, Cd.rowLies HK.out.1, fun _ p hp => ?_, HK.out.2⟩
      subst hp
      exact (HK.out.1.lt p.block rfl).1

namespace Ev
theorem joined_succ {l : List (Int × Res)} {r : List Int} {k : Nat} (h : k < l.length) : joined (l.take (k + 1)) r = (joined (l.take k) r).set l[k].1.toNat l[k].2.val := by
  unfold joined
  rw [List.take_succ_eq_append_getElem h, List.foldl_append]
  rfl
theorem joined_len (l : List (Int × Res)) : ∀ r : List Int, (joined l r).length = r.length := by
  induction l with
  | nil => intro r; rfl
  | cons x l ih =>
    intro r
    show (joined l (r.set _ _)).length = _
    rw [ih, List.length_set]
theorem kidsE_zero {l : List (Int × Res)} (h : ∀ x ∈ l, x.2.err = 0) : kidsE l = 0 := by
  unfold kidsE
  rw [List.find?_eq_none.2 (fun x hx => by simpa using h x hx)]
  rfl
theorem kidsE_first {l : List (Int × Res)} {k : Nat} (hk : k < l.length) (h : ∀ x ∈ l.take k, x.2.err = 0) (he : l[k].2.err ≠ 0) : kidsE l = l[k].2.err := by
  unfold kidsE
  have e : l = l.take k ++ l[k] :: l.drop (k + 1) := by rw [← List.drop_eq_getElem_cons hk, List.take_append_drop]
  have h2 : l.find? (fun x => decide (x.2.err ≠ 0)) = some l[k] := by
    have h3 : (l.take k ++ l[k] :: l.drop (k + 1)).find? (fun x => decide (x.2.err ≠ 0)) = some l[k] := by
      rw [List.find?_append, List.find?_eq_none.2 (fun x hx => by simpa using h x hx), List.find?_cons_of_pos (by simpa using he)]
      rfl
    rwa [← e] at h3
  rw [h2]
  rfl
/-- What a join leaves. -/
def JoinP (K : Nat → Prop) (X T R : Nat) (fs mk v u : Value) (hd ds : List Dm) (t : Tsk) (A : Option Addr) (c : Nat) (s : St) (w : World) (e : Ending) (w' : World) : Prop :=
  e = .returned (.int .i64 (kidsE s.wts)) ∧ ∃ (s' : St) (u' : Value), NowE K X T R fs mk v u' hd ds t A c s' w' ∧ (kidsE s.wts = 0 → s' = { s with regs := joined s.wts s.regs, wts := [] }) ∧ s'.kids = s.kids ∧ s'.done = s.done ∧ Gm.Mvg (NOff X T R v u) (NOff X T R v u') w w'
theorem own_slice {w : World} {base m n : Nat} {v : Value} {T : TypeId} {xs : List Value} (h : w.ownsRow base T m v n xs) : ∃ A c, v = .slice A n c := by
  rcases h.2 with ⟨rfl, rfl⟩ | ⟨g, cap, cur, rfl, _⟩
  · exact ⟨none, 0, rfl⟩
  · exact ⟨_, _, rfl⟩
theorem wcells_at {l : List (Int × Res)} {j i : Nat} {u : Value} (hj : j < l.length) (h : (wc1 l[j])[i]? = some u) : (wcells l)[j * 3 + i]? = some u := by
  induction l generalizing j with
  | nil => simp at hj
  | cons o l ih =>
    have e : wcells (o :: l) = wc1 o ++ wcells l := rfl
    have hc : (wc1 o).length = 3 := rfl
    cases j with
    | zero =>
      have hi : i < 3 := by
        have := (List.getElem?_eq_some_iff.1 h).1
        simpa [wc1] using this
      rw [e, List.getElem?_append_left (by omega)]
      simpa using h
    | succ j =>
      rw [e, List.getElem?_append_right (by omega), hc]
      have : (j + 1) * 3 + i - 3 = j * 3 + i := by omega
      rw [this]
      exact ih (by simpa using hj) (by simpa using h)
/-- One child's cells, as a walk asks for them. -/
theorem w_at {w : World} {A : Option Addr} {n c : Nat} {l : List (Int × Res)} (h : w.ownsRow 0 246 3 (.slice A n c) n (wcells l)) {j : Nat} (hj : j < l.length) :
    ∃ ad : Addr, A = some ad ∧ w.cell? (ad.add (j * 3)) = some (.int .i64 l[j].2.val) ∧ w.cell? ⟨(ad.add (j * 3)).block, (ad.add (j * 3)).off + 1, none⟩ = some (.int .i64 l[j].2.err) ∧ w.cell? ⟨(ad.add (j * 3)).block, (ad.add (j * 3)).off + 2, none⟩ = some (.int .i64 l[j].1) := by
  have hl := h.1
  rw [wcells_len] at hl
  obtain ⟨hl2, h0 | ⟨g, cap, cur, e, hg, hh, hn, hcap, hsz, ht⟩⟩ := h
  · have : n = 0 := h0.2
    omega
  · injection e with e1 e2 e3
    subst e1
    have hc : ∀ i u, (wc1 l[j])[i]? = some u → w.cell? ⟨g, j * 3 + i, none⟩ = some u := fun i u hu => by
      have := wcells_at hj hu
      rw [← ht, List.getElem?_take] at this
      split at this
      · rw [cell_of_row w g _ cur _ (0, 0) hh]
        simpa using this
      · cases this
    have ea : (⟨g, 0, none⟩ : Addr).add (j * 3) = ⟨g, j * 3, none⟩ := by rw [Addr.add_mid, Nat.zero_add]
    refine ⟨⟨g, 0, none⟩, rfl, ?_, ?_, ?_⟩
    · rw [ea]; exact hc 0 _ rfl
    · rw [ea]; exact hc 1 _ rfl
    · rw [ea]; exact hc 2 _ rfl
end Ev

set_option maxHeartbeats 2000000 in
set_option maxRecDepth 20000 in
theorem ejoin {K : Nat → Prop} {X T R : Nat} {fs mk v u : Value} {hd ds : List Ev.Dm} {t : Ev.Tsk} {A : Option Addr} {c : Nat} {s : Ev.St} {w : World} (h : Ev.NowE K X T R fs mk v u hd ds t A c s w) (hw : s.wts.length ≤ 16)
    (hr : ∀ x ∈ s.wts, 0 ≤ x.1 ∧ x.1 < (s.regs.length : Int)) :
    Calls Tryz.prog 128 #[.pointer (some ⟨T, 0, none⟩)] w (Ev.JoinP K X T R fs mk v u hd ds t A c s w) := by
  have H := Lib.hid h
  have HR := Lib.hid hr
  have HW := Lib.hid hw
  have t8 : w.cell? ⟨T, 8, none⟩ = some u := h.tk.cell 8
  have hk63 : (s.wts.length : Int) ≤ 9223372036854775807 := by omega
  obtain ⟨U, cu, hu⟩ := Ev.own_slice h.tk.row
  subst hu
  clear h hr hw
  go_enter Tryz.func128, Tryz.ntmps128
  go_wp2_with fail
  clear t8
  go_loopw [10] (fun s10 wr => ∃ k : Nat, k ≤ s.wts.length ∧ s10 = .int .i64 k ∧ Hid ((∀ x ∈ s.wts.take k, x.2.err = 0) ∧ Ev.NowE K X T R fs mk v (.slice U s.wts.length cu) hd ds t A c { s with regs := Ev.joined (s.wts.take k) s.regs } wr ∧ Gm.Mvg (Ev.NOff X T R v (.slice U s.wts.length cu)) (Ev.NOff X T R v (.slice U s.wts.length cu)) w wr)) (fun s10 _ => s.wts.length - (intOf s10).toNat)
  case atStart => exact ⟨0, Nat.zero_le _, rfl, fun x hx => by simp at hx, H.out, Gm.Mvg.refl _ _⟩
  case round =>
    obtain ⟨k, hk, rfl, HK⟩ := hrel
    by_cases hlt : k < s.wts.length
    · have k0 : (0 : Int) ≤ (k : Int) := by omega
      have k1 : (k : Int) < (s.wts.length : Int) := by omega
      obtain ⟨ad, rfl, c0, c1, c2⟩ := Ev.w_at HK.out.2.1.tk.row hlt
      have HJ := Lib.hid (Ev.joined_succ (r := s.regs) hlt)
      have HTS := Lib.hid (List.take_succ_eq_append_getElem hlt)
      have HFI := Lib.hid (Ev.kidsE_first hlt HK.out.1)
      have hreg := HR.out _ (List.getElem_mem hlt)
      generalize s.wts[k] = x at c0 c1 c2 HJ HTS HFI hreg
      obtain ⟨d, val, err⟩ := x
      simp only [] at c0 c1 c2 hreg
      obtain ⟨dn, rfl⟩ := Int.eq_ofNat_of_zero_le hreg.1
      obtain ⟨V, hV⟩ : ∃ V, V = wr.alloc (.cells #[.int .i64 val, .int .i64 err, .int .i64 (dn : Int)] 246) := ⟨_, rfl⟩
      have hbV : Below wr.heap.size wr V := by rw [hV]; exact Cd.fn1 _ _ _
      have hZ : V.heap[wr.heap.size]? = some (.cells #[.int .i64 val, .int .i64 err, .int .i64 (dn : Int)] 246 (0, 0)) := by rw [hV]; exact heap_alloc_new wr _
      have HKV := Lib.hid (HK.out.2.1.below hbV)
      have HMV := Lib.hid (HK.out.2.2.trans (Gm.Mvg.of_below hbV))
      have HE0 := Lib.hid HK.out.1
      have HZL : Hid (wr.heap.size < V.heap.size ∧ w.heap.size ≤ wr.heap.size) := ⟨Cd.ltH hZ, HK.out.2.2.size⟩
      have HFR : Hid (∀ i, wr.heap.size ≤ i → i < V.heap.size → i ≠ T ∧ i ≠ R) := fun i h1 h2 => ⟨fun e => by have := HK.out.2.1.tk.ltT; omega, fun e => by have := HK.out.2.1.tk.ltR; omega⟩
      clear hlt HK hbV
      go_upto_region 4 with fail
      rw [← hV]
      clear hV c0 c1 c2
      generalize wr.heap.size = Z at hZ HZL HFR ⊢
      have z0 : V.cell? ⟨Z, 0, none⟩ = some (.int .i64 val) := cell_of_row _ _ 0 _ _ _ hZ
      have z1 : V.cell? ⟨Z, 1, none⟩ = some (.int .i64 err) := cell_of_row _ _ 1 _ _ _ hZ
      have z2 : V.cell? ⟨Z, 2, none⟩ = some (.int .i64 (dn : Int)) := cell_of_row _ _ 2 _ _ _ hZ
      by_cases he : err = 0
      · subst he
        have hl : (Ev.joined (s.wts.take k) s.regs).length = s.regs.length := Ev.joined_len _ _
        have hdn : dn < (Ev.joined (s.wts.take k) s.regs).length := by rw [hl]; omega
        have t4 : V.cell? ⟨T, 4, none⟩ = some (.slice (some ⟨R, 0, none⟩) s.regs.length s.regs.length) := by
          have := HKV.out.tk.cell 4
          rw [this]
          unfold Ev.tcs
          simp only [hl]
          rfl
        have r0 := HKV.out.tk.reg hdn
        have rf := HKV.out.tk.rfro dn
        have d0 : (0 : Int) ≤ (dn : Int) := by omega
        have d1 : (dn : Int) < (s.regs.length : Int) := by omega
        obtain ⟨hn2, hm2⟩ := HKV.out.setR dn val
        have HNEW : Hid ((∀ x ∈ s.wts.take (k + 1), x.2.err = 0) ∧ Ev.NowE K X T R fs mk v (.slice (some ad) s.wts.length cu) hd ds t A c { s with regs := Ev.joined (s.wts.take (k + 1)) s.regs } (V.setCell ⟨R, dn, none⟩ (.int .i64 val)) ∧ Gm.Mvg (Ev.NOff X T R v (.slice (some ad) s.wts.length cu)) (Ev.NOff X T R v (.slice (some ad) s.wts.length cu)) w (V.setCell ⟨R, dn, none⟩ (.int .i64 val))) := by
          refine ⟨fun y hy => ?_, ?_, HMV.out.trans hm2⟩
          · rw [HTS.out] at hy
            rcases List.mem_append.1 hy with hy | hy
            · exact HE0.out y hy
            · rw [List.mem_singleton.1 hy]
          · rw [HJ.out]
            simpa using hn2
        generalize (Ev.joined (s.wts.take k) s.regs)[dn] = old at r0
        clear hl hdn hn2 hm2 HJ HTS HFI HKV HMV HE0 hZ hreg
        go_wp2_with fail
        go_region
        go_wp2_with fail
        go_roundw
        case rel => exact ⟨k + 1, by omega, by go_num, HNEW.out.1, HNEW.out.2.1.drew, Ev.mvg_drew HNEW.out.2.2⟩
        case measure => simp [intOf]; omega
      · have HE := Lib.hid (HFI.out he)
        have hb : (err == 0) = false := by simpa using he
        have hb2 : (err != 0) = true := by simpa using he
        clear hreg HFI HTS HJ hZ HFR HZL he
        go_wp2_with fail
        go_ret
        refine ⟨by rw [HE.out]; rfl, _, _, HKV.out, fun h => absurd h (by rw [HE.out]; simpa using hb), rfl, rfl, HMV.out⟩
    · obtain rfl : k = s.wts.length := by omega
      have k1 : ¬ (s.wts.length : Int) < (s.wts.length : Int) := by omega
      rw [List.take_length] at HK
      have t8 : wr.cell? ⟨T, 8, none⟩ = some (.slice U s.wts.length cu) := HK.out.2.1.tk.cell 8
      have tf := HK.out.2.1.tk.fro 8
      obtain ⟨h1, h2, h3⟩ := HK.out
      obtain ⟨hn8, hm8⟩ := h2.none8
      have HF : Hid (Ev.JoinP K X T R fs mk v (.slice U s.wts.length cu) hd ds t A c s w (.returned (.int .i64 0)) (wr.setCell ⟨T, 8, none⟩ (.slice none 0 0))) := by
        have he := Ev.kidsE_zero h1
        exact ⟨by rw [he], _, _, hn8, fun _ => rfl, rfl, rfl, h3.trans hm8⟩
      clear hlt h1 h2 h3 hn8 hm8 HK
      go_wp2_with fail
      go_ret
      exact HF.out
end Go.Proofs.YtepnofklmdofmaaGreatDoor
end
