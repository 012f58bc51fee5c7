/-
  Layer 14: the contracts of a frame's methods, but New, Give and Task.
  Layer 14: the contracts of Waits, Task and Give.
  Layer 14: the contracts of Task and Give.
  Layer 14: the contract of Give.
-/
import Derived.Test.YtnlhacgihmelhaaGreatDoorLowVmK
import Derived.Test.YtnlhacgihmelhaaGreatDoorLowCdN
section
namespace Go.Proofs.YtnlhacgihmelhaaGreatDoor
open Go.RowKit

namespace Vm
open Cd Ev
/-- A frame by its handle. -/
structure Own (K : Nat → Prop) (V : Nat) (b : Bk) (p : List FnV) (t : Tsk) (s : Fs) (w : World) : Prop where
  vb : w.heap[V]? = some (.cells #[.pointer (some ⟨b.F, 0, none⟩)] 114 (0, 0))
  vo : KOff b V
  vk : K V
  hf : Hf K b p t s w
section
variable {K K' : Nat → Prop} {V : Nat} {b : Bk} {p : List FnV} {t : Tsk} {s : Fs} {w w' : World}
theorem Own.lt (h : Own K V b p t s w) : V < w.heap.size := ltH h.vb
theorem Own.c (h : Own K V b p t s w) : w.cell? ⟨V, 0, none⟩ = some (.pointer (some ⟨b.F, 0, none⟩)) := cell_of_row _ _ 0 _ _ _ h.vb
theorem Own.mv (h : Own K V b p t s w) (mv : Gm.Mvg K K' w w') (hf : ∀ i, w'.heap.size ≤ i → K' i) : Own K' V b p t s w' := ⟨(mv.block V h.lt h.vk).trans h.vb, h.vo, mv.keep V h.lt h.vk, h.hf.mv mv hf⟩
theorem Own.below (h : Own K V b p t s w) (hb : Below w.heap.size w w') : Own K V b p t s w' := ⟨(hb.block V h.lt).trans h.vb, h.vo, h.vk, h.hf.below hb⟩
end
/-- What Run leaves. -/
def FRunP (K : Nat → Prop) (V : Nat) (b : Bk) (p : List FnV) (t : Tsk) (x : Stp × Fs) (w : World) (e : Ending) (w' : World) : Prop :=
  ∃ (b' : Bk) (k : Int) (pa : ByteArray) (fn : Int) (A : Option Addr) (n c : Nat) (fu va er : Int),
    e = .returned (.tuple #[.agg #[.int .u8 k, .string pa, .int .i64 fn, .slice A n c, .int .i64 fu, .int .i64 va, .int .i64 er], .int .i64 0]) ∧
    Hid (stpV x.1 = (k, pa, fn, n, fu, va, er) ∧ Own K V b' p t x.2 w' ∧ Gm.Mvg (KOff b) (KOff b') w w' ∧ LOk (fun i => (KOff b' i ∧ K i) ∧ w.heap.size ≤ i) w' A (icells (kargs x.1)))
theorem FRunP.of {K : Nat → Prop} {V : Nat} {b : Bk} {p : List FnV} {t : Tsk} {s : Fs} {x : Stp × Fs} {w w' : World} {k : Int} {pa : ByteArray} {fn : Int} {A : Option Addr} {n c : Nat} {fu va er : Int} (h : Own K V b p t s w)
    (ho : OutP K b p t x w (.returned (.agg #[.int .u8 k, .string pa, .int .i64 fn, .slice A n c, .int .i64 fu, .int .i64 va, .int .i64 er])) w') :
    FRunP K V b p t x w (.returned (.tuple #[.agg #[.int .u8 k, .string pa, .int .i64 fn, .slice A n c, .int .i64 fu, .int .i64 va, .int .i64 er], .int .i64 0])) w' := by
  obtain ⟨b2, k2, pa2, fn2, A2, n2, c2, fu2, va2, er2, e, h2⟩ := ho
  injection e with e
  injection e with e
  simp only [Array.mk.injEq, List.cons.injEq, Value.int.injEq, Value.string.injEq, Value.slice.injEq, and_true, true_and] at e
  obtain ⟨rfl, rfl, rfl, ⟨rfl, rfl, rfl⟩, rfl, rfl, rfl⟩ := e
  obtain ⟨g1, g2, g3, g4, g5⟩ := h2.out
  exact ⟨b2, _, _, _, _, _, _, _, _, _, rfl, g1, ⟨by rw [(g3.block V h.lt h.vo), h.vb, g4], g3.keep V h.lt h.vo, h.vk, g2⟩, g3, g5⟩
end Vm

theorem vis_nil (w : World) : Calls Tryz.prog 46 #[.pointer none] w fun e w' => e = .returned (.bool false) ∧ w = w' := by
  go_enter Tryz.func46, Tryz.ntmps46
  go_wp2_with fail
  go_ret
  exact ⟨rfl, rfl⟩
theorem vis (V F : Nat) (w : World) (h : w.cell? ⟨V, 0, none⟩ = some (.pointer (some ⟨F, 0, none⟩))) : Calls Tryz.prog 46 #[.pointer (some ⟨V, 0, none⟩)] w fun e w' => e = .returned (.bool true) ∧ w = w' := by
  go_enter Tryz.func46, Tryz.ntmps46
  go_wp2_with fail
  go_ret
  exact ⟨rfl, rfl⟩
theorem vKids_nil (w : World) : Calls Tryz.prog 26 #[.pointer none] w fun e w' => e = .returned (.int .i64 0) ∧ w = w' := by
  go_enter Tryz.func26, Tryz.ntmps26
  go_wp2_with fail
  refine (vis_nil _).mono ?_
  rintro e w1 ⟨rfl, rfl⟩
  go_wp2_with fail
  go_ret
  exact ⟨rfl, rfl⟩
set_option maxHeartbeats 1000000 in
theorem vKids {K : Nat → Prop} {V : Nat} {b : Vm.Bk} {p : List Cd.FnV} {t : Ev.Tsk} {s : Vm.Fs} {w : World} (h : Vm.Own K V b p t s w) : Calls Tryz.prog 26 #[.pointer (some ⟨V, 0, none⟩)] w fun e w' => e = .returned (.int .i64 (s.kids.length : Int)) ∧ w = w' := by
  have HI := Lib.hid (vis V b.F w h.c)
  have v0 := h.c
  obtain ⟨U, cu, hu⟩ := Ev.own_slice h.hf.fr.row
  have c9 : w.cell? ⟨b.F, 9, none⟩ = some (.slice U s.kids.length cu) := by rw [← hu]; exact h.hf.fr.cell 9
  clear hu
  clear h
  go_enter Tryz.func26, Tryz.ntmps26
  go_wp2_with fail
  refine HI.out.mono ?_
  rintro e w1 ⟨rfl, rfl⟩
  go_wp2_with fail
  go_ret
  exact ⟨rfl, rfl⟩
theorem vLeft_nil (w : World) : Calls Tryz.prog 27 #[.pointer none] w fun e w' => e = .returned (.int .i64 0) ∧ w = w' := by
  go_enter Tryz.func27, Tryz.ntmps27
  go_wp2_with fail
  refine (vis_nil _).mono ?_
  rintro e w1 ⟨rfl, rfl⟩
  go_wp2_with fail
  go_ret
  exact ⟨rfl, rfl⟩
set_option maxHeartbeats 1000000 in
theorem vLeft {K : Nat → Prop} {V : Nat} {b : Vm.Bk} {p : List Cd.FnV} {t : Ev.Tsk} {s : Vm.Fs} {w : World} (h : Vm.Own K V b p t s w) : Calls Tryz.prog 27 #[.pointer (some ⟨V, 0, none⟩)] w fun e w' => e = .returned (.int .i64 (s.left : Int)) ∧ w = w' := by
  have HI := Lib.hid (vis V b.F w h.c)
  have v0 := h.c
  have c8 : w.cell? ⟨b.F, 8, none⟩ = some (.int .i64 (s.left : Int)) := h.hf.fr.cell 8
  clear h
  go_enter Tryz.func27, Tryz.ntmps27
  go_wp2_with fail
  refine HI.out.mono ?_
  rintro e w1 ⟨rfl, rfl⟩
  go_wp2_with fail
  go_ret
  exact ⟨rfl, rfl⟩
theorem vWaits_nil (w : World) : Calls Tryz.prog 29 #[.pointer none] w fun e w' => e = .returned (.slice none 0 0) ∧ w = w' := by
  go_enter Tryz.func29, Tryz.ntmps29
  go_wp2_with fail
  refine (vis_nil _).mono ?_
  rintro e w1 ⟨rfl, rfl⟩
  go_wp2_with fail
  go_ret
  exact ⟨rfl, rfl⟩

set_option maxHeartbeats 1000000 in
set_option maxRecDepth 20000 in
theorem vRun_nil (w : World) (n : Int) : Calls Tryz.prog 21 #[.pointer none, .int .i64 n] w fun e w' => e = .returned (.tuple #[.agg #[.int .u8 0, .string ⟨#[]⟩, .int .i64 0, .slice none 0 0, .int .i64 0, .int .i64 0, .int .i64 0], .int .i64 1]) ∧ Below w.heap.size w w' := by
  obtain ⟨W, hW⟩ : ∃ W, W = w.alloc (.cells #[.int .u8 0, .string ⟨#[]⟩, .int .i64 0, .slice none 0 0, .int .i64 0, .int .i64 0, .int .i64 0] 59) := ⟨_, rfl⟩
  have hb : Below w.heap.size w W := by rw [hW]; exact Cd.fn1 _ _ _
  have hZ : Vm.ZB w.heap.size W := ⟨by rw [hW]; exact heap_alloc_new w _⟩
  have HI : Hid ((Tryz.prog.info? 59).map (·.size) = some 7) := Vm.stp_size
  have HRW := Lib.hid (hZ.ret (.int .u8 0) (.string ⟨#[]⟩) (.int .i64 0) (.slice none 0 0) (.int .i64 0) (.int .i64 0) (.int .i64 0))
  have HFIN := Lib.hid (Vm.set7_below (Q := w.heap.size) hb (Nat.le_refl _) (.int .u8 0) (.string ⟨#[]⟩) (.int .i64 0) (.slice none 0 0) (.int .i64 0) (.int .i64 0) (.int .i64 0))
  obtain ⟨⟨y0, y1, y2, y3, y4, y5, y6⟩, yf0, yf1, yf2, yf3, yf4, yf5, yf6⟩ := hZ.all
  clear hZ hb
  go_enter Tryz.func21, Tryz.ntmps21
  go_upto_region 1 with fail
  rw [← hW]
  clear hW
  obtain ⟨Y, hYe⟩ : ∃ Y, Y = w.heap.size := ⟨_, rfl⟩
  rw [← hYe] at HRW y0 y1 y2 y3 y4 y5 y6 yf0 yf1 yf2 yf3 yf4 yf5 yf6 ⊢
  replace HFIN : Hid (Below w.heap.size w (Vm.set7 W Y (.int .u8 0) (.string ⟨#[]⟩) (.int .i64 0) (.slice none 0 0) (.int .i64 0) (.int .i64 0) (.int .i64 0))) := by rw [hYe]; exact HFIN
  clear hYe
  go_wp2_with fail
  refine (vis_nil _).mono ?_
  rintro e w1 ⟨rfl, rfl⟩
  go_wp2_with fail
  refine bodyPost_ret (v := .tuple #[.agg #[.int .u8 0, .string ⟨#[]⟩, .int .i64 0, .slice none 0 0, .int .i64 0, .int .i64 0, .int .i64 0], .int .i64 1]) (Cd.results_ct Tryz.results21 _ _ Y 59 #[.int .u8 0, .string ⟨#[]⟩, .int .i64 0, .slice none 0 0, .int .i64 0, .int .i64 0, .int .i64 0] (0, 0) _ rfl HRW.out Tryz.underlying59 rfl HI.out _ rfl) rfl ?_
  exact ⟨rfl, HFIN.out⟩

set_option maxHeartbeats 1000000 in
set_option maxRecDepth 20000 in
theorem vRun_arg {K : Nat → Prop} {V : Nat} {b : Vm.Bk} {p : List Cd.FnV} {t : Ev.Tsk} {s : Vm.Fs} {w : World} (h : Vm.Own K V b p t s w) (n : Int) (hn : n < 1) : Calls Tryz.prog 21 #[.pointer (some ⟨V, 0, none⟩), .int .i64 n] w fun e w' => e = .returned (.tuple #[.agg #[.int .u8 0, .string ⟨#[]⟩, .int .i64 0, .slice none 0 0, .int .i64 0, .int .i64 0, .int .i64 0], .int .i64 2]) ∧ Below w.heap.size w w' := by
  obtain ⟨W, hW⟩ : ∃ W, W = w.alloc (.cells #[.int .u8 0, .string ⟨#[]⟩, .int .i64 0, .slice none 0 0, .int .i64 0, .int .i64 0, .int .i64 0] 59) := ⟨_, rfl⟩
  have hb : Below w.heap.size w W := by rw [hW]; exact Cd.fn1 _ _ _
  have hZ : Vm.ZB w.heap.size W := ⟨by rw [hW]; exact heap_alloc_new w _⟩
  have HI : Hid ((Tryz.prog.info? 59).map (·.size) = some 7) := Vm.stp_size
  have HIS := Lib.hid (vis V b.F W (h.below hb).c)
  clear h
  have HRW := Lib.hid (hZ.ret (.int .u8 0) (.string ⟨#[]⟩) (.int .i64 0) (.slice none 0 0) (.int .i64 0) (.int .i64 0) (.int .i64 0))
  have HFIN := Lib.hid (Vm.set7_below (Q := w.heap.size) hb (Nat.le_refl _) (.int .u8 0) (.string ⟨#[]⟩) (.int .i64 0) (.slice none 0 0) (.int .i64 0) (.int .i64 0) (.int .i64 0))
  obtain ⟨⟨y0, y1, y2, y3, y4, y5, y6⟩, yf0, yf1, yf2, yf3, yf4, yf5, yf6⟩ := hZ.all
  clear hZ hb
  go_enter Tryz.func21, Tryz.ntmps21
  go_upto_region 1 with fail
  rw [← hW]
  clear hW
  obtain ⟨Y, hYe⟩ : ∃ Y, Y = w.heap.size := ⟨_, rfl⟩
  rw [← hYe] at HRW y0 y1 y2 y3 y4 y5 y6 yf0 yf1 yf2 yf3 yf4 yf5 yf6 ⊢
  replace HFIN : Hid (Below w.heap.size w (Vm.set7 W Y (.int .u8 0) (.string ⟨#[]⟩) (.int .i64 0) (.slice none 0 0) (.int .i64 0) (.int .i64 0) (.int .i64 0))) := by rw [hYe]; exact HFIN
  clear hYe
  go_wp2_with fail
  refine HIS.out.mono ?_
  rintro e w1 ⟨rfl, rfl⟩
  go_wp2_with fail
  refine bodyPost_ret (v := .tuple #[.agg #[.int .u8 0, .string ⟨#[]⟩, .int .i64 0, .slice none 0 0, .int .i64 0, .int .i64 0, .int .i64 0], .int .i64 2]) (Cd.results_ct Tryz.results21 _ _ Y 59 #[.int .u8 0, .string ⟨#[]⟩, .int .i64 0, .slice none 0 0, .int .i64 0, .int .i64 0, .int .i64 0] (0, 0) _ rfl HRW.out Tryz.underlying59 rfl HI.out _ rfl) rfl ?_
  exact ⟨rfl, HFIN.out⟩

set_option maxHeartbeats 1000000 in
set_option maxRecDepth 20000 in
theorem vRun {K : Nat → Prop} {V : Nat} {b : Vm.Bk} {p : List Cd.FnV} {t : Ev.Tsk} {s : Vm.Fs} {w : World} (h : Vm.Own K V b p t s w) (he : Vm.PE p t) (hok : Vm.FOk p t s) (n : Nat) (hn1 : 1 ≤ n) (hn : (n : Int) ≤ 9223372036854775807) :
    Calls Tryz.prog 21 #[.pointer (some ⟨V, 0, none⟩), .int .i64 (n : Int)] w (Vm.FRunP K V b p t (Vm.runF p t n s) w) := by
  obtain ⟨W, hW⟩ : ∃ W, W = w.alloc (.cells #[.int .u8 0, .string ⟨#[]⟩, .int .i64 0, .slice none 0 0, .int .i64 0, .int .i64 0, .int .i64 0] 59) := ⟨_, rfl⟩
  have hb : Below w.heap.size w W := by rw [hW]; exact Cd.fn1 _ _ _
  have hZ : Vm.ZB w.heap.size W := ⟨by rw [hW]; exact heap_alloc_new w _⟩
  have HI : Hid ((Tryz.prog.info? 59).map (·.size) = some 7) := Vm.stp_size
  have hN : Vm.Hf (fun i => K i ∧ i ≠ w.heap.size) b p t s W := by rw [hW]; exact h.hf.at_new _
  have HZ := Lib.hid hZ
  have HB := Lib.hid hb
  have HOW := Lib.hid h
  have HKF := Lib.hid h.hf.fresh
  have HKO := Lib.hid (h.hf.fr.lt w.heap.size (Nat.le_refl _))
  have HIS := Lib.hid (vis V b.F W (h.below hb).c)
  have HCA := Lib.hid (vrun hN he hok n hn)
  have v0 := (h.below hb).c
  have n1 : ¬ (n : Int) < 1 := by omega
  clear hb hZ hN h he hok hn1
  go_enter Tryz.func21, Tryz.ntmps21
  go_upto_region 1 with fail
  rw [← hW]
  clear hW
  obtain ⟨Y, hYe⟩ : ∃ Y, Y = w.heap.size := ⟨_, rfl⟩
  rw [← hYe] at HZ HKO HCA ⊢
  have HYS : Hid (w.heap.size ≤ Y) := by show _ ≤ _; omega
  clear hYe
  go_wp2_with fail
  refine HIS.out.mono ?_
  rintro e w1 ⟨rfl, rfl⟩
  go_wp2_with fail
  refine HCA.out.mono ?_
  rintro e w4 ⟨b', kk, pa, fn, A, n', c', fu, va, er, rfl, hoo⟩
  have hZ4 := HZ.out.mv hoo.out.2.2.1 HKO.out
  have HRW := Lib.hid (hZ4.ret (.int .u8 kk) (.string pa) (.int .i64 fn) (.slice A n' c') (.int .i64 fu) (.int .i64 va) (.int .i64 er))
  have HFIN : Hid (Vm.FRunP K V b p t (Vm.runF p t n s) w (.returned (.tuple #[.agg #[.int .u8 kk, .string pa, .int .i64 fn, .slice A n' c', .int .i64 fu, .int .i64 va, .int .i64 er], .int .i64 0])) (Vm.set7 w4 Y (.int .u8 kk) (.string pa) (.int .i64 fn) (.slice A n' c') (.int .i64 fu) (.int .i64 va) (.int .i64 er))) :=
    Vm.FRunP.of HOW.out (Vm.OutP.ret HKF.out HYS.out (Gm.Mvg.of_below HB.out) hoo.out _ _ _ _ _ _ _)
  obtain ⟨⟨y0, y1, y2, y3, y4, y5, y6⟩, yf0, yf1, yf2, yf3, yf4, yf5, yf6⟩ := hZ4.all
  clear hZ4 HCA v0
  go_wp2_with fail
  refine bodyPost_ret (v := .tuple #[.agg #[.int .u8 kk, .string pa, .int .i64 fn, .slice A n' c', .int .i64 fu, .int .i64 va, .int .i64 er], .int .i64 0]) (Cd.results_ct Tryz.results21 _ _ Y 59 #[.int .u8 kk, .string pa, .int .i64 fn, .slice A n' c', .int .i64 fu, .int .i64 va, .int .i64 er] (0, 0) _ rfl HRW.out Tryz.underlying59 rfl HI.out _ rfl) rfl ?_
  exact HFIN.out
end Go.Proofs.YtnlhacgihmelhaaGreatDoor
end

section
namespace Go.Proofs.YtnlhacgihmelhaaGreatDoor
open Go.RowKit

namespace Vm
open Cd Ev
theorem waits_succ {l : List Kd} {k : Nat} (hk : k < l.length) : waitsL (l.take (k + 1)) 0 = waitsL (l.take k) 0 ++ (if l[k].given then [] else [(k : Int) + 1]) := by
  unfold waitsL
  rw [List.take_succ_eq_append_getElem hk, List.zipIdx_append, List.filterMap_append]
  congr 1
  rw [List.length_take, Nat.min_eq_left (by omega), Nat.zero_add]
  simp only [List.zipIdx_cons, List.zipIdx_nil, List.filterMap_cons, List.filterMap_nil]
  cases l[k].given <;> rfl
theorem waits_len (l : List Kd) (i : Nat) : (waitsL l i).length ≤ l.length := by
  unfold waitsL
  refine Nat.le_trans (List.length_filterMap_le _ _) ?_
  rw [List.length_zipIdx]
  exact Nat.le_refl _
def WaitP (l : List Kd) (w : World) (e : Ending) (w' : World) : Prop := ∃ (A : Option Addr) (c : Nat), e = .returned (.slice A (waitsL l 0).length c) ∧ Hid (Lies w' w'.heap.size A (icells (waitsL l 0)) ∧ (∀ p, A = some p → w.heap.size ≤ p.block) ∧ Below w.heap.size w w')
end Vm

set_option maxHeartbeats 2000000 in
set_option maxRecDepth 20000 in
theorem vWaits {K : Nat → Prop} {V : Nat} {b : Vm.Bk} {p : List Cd.FnV} {t : Ev.Tsk} {s : Vm.Fs} {w : World} (h : Vm.Own K V b p t s w) (hk : s.kids.length ≤ 16) :
    Calls Tryz.prog 29 #[.pointer (some ⟨V, 0, none⟩)] w (Vm.WaitP s.kids w) := by
  have HI := Lib.hid (vis V b.F w h.c)
  have v0 := h.c
  obtain ⟨U, cu, hu⟩ := Ev.own_slice h.hf.fr.row
  have c9 : w.cell? ⟨b.F, 9, none⟩ = some (.slice U s.kids.length cu) := by rw [← hu]; exact h.hf.fr.cell 9
  have hrow := h.hf.fr.row
  rw [hu] at hrow
  have HL := Lib.hid (Cd.rowLies hrow)
  have HK16 := Lib.hid hk
  clear hu hrow h hk
  generalize s.kids = l at c9 HL HK16 ⊢
  go_enter Tryz.func29, Tryz.ntmps29
  go_wp2_with fail
  refine HI.out.mono ?_
  rintro e w1 ⟨rfl, rfl⟩
  go_wp2_with fail
  clear v0 c9
  go_loopw [3, 17] (fun s3 s17 wr => ∃ (k : Nat) (A2 : Option Addr) (c2 : Nat), k ≤ l.length ∧ s3 = .slice A2 (Vm.waitsL (l.take k) 0).length c2 ∧ s17 = .int .i64 k ∧ Hid (wr.ownsRow w.heap.size 3 1 (.slice A2 (Vm.waitsL (l.take k) 0).length c2) (Vm.waitsL (l.take k) 0).length (icells (Vm.waitsL (l.take k) 0)) ∧ Below w.heap.size w wr)) (fun _ s17 _ => l.length - (intOf s17).toNat)
  case atStart => exact ⟨0, none, 0, Nat.zero_le _, rfl, rfl, ⟨rfl, .inl ⟨rfl, rfl⟩⟩, Below.refl _ _⟩
  case round =>
    obtain ⟨k, A2, c2, hk, rfl, rfl, HK⟩ := hrel
    by_cases hlt : k < l.length
    · have k0 : (0 : Int) ≤ (k : Int) := by omega
      have k1 : (k : Int) < (l.length : Int) := by omega
      obtain ⟨ad, rfl, -, d0, d1, d2, d3⟩ := Vm.kid_at ((HL.out.below HK.out.2).mono HK.out.2.size) hlt
      have HS := Lib.hid (Vm.waits_succ hlt)
      obtain ⟨x, hx⟩ : ∃ x, x = l[k] := ⟨_, rfl⟩
      rw [← hx] at d0 d1 d2 d3 HS
      clear hx
      obtain ⟨X, hX⟩ : ∃ X, X = wr.alloc (.cells #[.int .i64 x.r.val, .int .i64 x.r.err, .int .i64 x.reg, .bool x.given] 124) := ⟨_, rfl⟩
      have hbX : Below wr.heap.size wr X := by rw [hX]; exact Cd.fn1 _ _ _
      have hx3 : X.heap[wr.heap.size]? = some (.cells #[.int .i64 x.r.val, .int .i64 x.r.err, .int .i64 x.reg, .bool x.given] 124 (0, 0)) := by rw [hX]; exact heap_alloc_new wr _
      have u3 : X.cell? ⟨wr.heap.size, 3, none⟩ = some (.bool x.given) := cell_of_row _ _ 3 _ _ _ hx3
      have hk100 : k ≤ 100000 := by have := HK16.out; omega
      obtain ⟨M, hM⟩ : ∃ M, M = (Vm.waitsL (l.take k) 0).length := ⟨_, rfl⟩
      have hM100 : M ≤ 100000 := by have := Vm.waits_len (l.take k) 0; rw [List.length_take] at this; omega
      have HMM := Lib.hid hM
      rw [← hM] at HK ⊢
      have HKX : Hid (X.ownsRow w.heap.size 3 1 (.slice A2 M c2) M (icells (Vm.waitsL (l.take k) 0)) ∧ Below w.heap.size w X) := ⟨Gm.ownsKeep HK.out.1 fun i hi => hbX.block i (HK.out.1.lt i hi).2, HK.out.2.trans (hbX.mono HK.out.2.size)⟩
      have hbs : w.heap.size ≤ X.heap.size := HKX.out.2.size
      have hw1 : IntKind.i64.wrap ((k : Int) + 1) = (k : Int) + 1 := by rw [IntKind.wrap_i64]; omega
      have HLT := Lib.hid hlt
      clear hlt hbX hx3 hM
      go_upto_region 7 with fail
      rw [← hX]
      clear hX d0 d1 d2 d3
      generalize wr.heap.size = Y at u3 ⊢
      cases hg : x.given with
      | true =>
        rw [hg] at u3 HS
        have HNEW : Hid (Vm.waitsL (l.take (k + 1)) 0 = Vm.waitsL (l.take k) 0) := by
          have := HS.out
          rw [if_pos rfl, List.append_nil] at this
          exact this
        clear hg
        go_wp2_with fail
        have hl1 : k < l.length := HLT.out
        go_roundw
        case rel =>
          refine ⟨k + 1, A2, c2, by omega, ?_, by go_num, ?_⟩
          · rw [HNEW.out, HMM.out]
          · rw [HNEW.out, ← HMM.out]
            exact HKX
        case measure => simp [intOf]; omega
      | false =>
        rw [hg] at u3 HS
        have HNEW : Hid (Vm.waitsL (l.take (k + 1)) 0 = Vm.waitsL (l.take k) 0 ++ [(k : Int) + 1]) := by
          have := HS.out
          rw [if_neg (by decide)] at this
          exact this
        clear hg
        go_wp2_with (refine Cd.at_app rfl ?_; refine Ck.ipush HKX.out.1 rfl _ _ rfl rfl rfl ((k : Int) + 1) (by first | with_reducible rfl | rfl) hM100 hbs ?_; intro g cap w6 hown hgr)
        have HN6 : Hid (w6.ownsRow w.heap.size 3 1 (.slice (some ⟨g, 0, none⟩) (M + 1) cap) (M + 1) (icells (Vm.waitsL (l.take (k + 1)) 0)) ∧ Below w.heap.size w w6) := by
          refine ⟨?_, ?_⟩
          · rw [HNEW.out, Ev.icells_snoc]
            exact hown
          · have hb := HKX.out.2.trans ((Cd.fn1 X #[.int .i64 ((k : Int) + 1)] 3).mono HKX.out.2.size)
            exact hb.grown hgr hb.size (fun q hq => (HKX.out.1.lt q hq).1)
        have HM1 : Hid ((Vm.waitsL (l.take (k + 1)) 0).length = M + 1) := by show _ = _; rw [HNEW.out, List.length_append, HMM.out]; rfl
        clear hown hgr hbs u3
        go_wp2_with fail
        have hl1 : k < l.length := HLT.out
        go_roundw
        case rel =>
          refine ⟨k + 1, some ⟨g, 0, none⟩, cap, by omega, ?_, by go_num, ?_⟩
          · rw [HM1.out]
          · rw [HM1.out]
            exact HN6
        case measure => simp [intOf]; omega
    · have k1 : ¬ (k : Int) < (l.length : Int) := by omega
      obtain rfl : k = l.length := by omega
      clear hlt
      rw [List.take_length] at HK ⊢
      go_wp2_with fail
      go_ret
      refine ⟨A2, c2, rfl, Cd.rowLies HK.out.1, fun p hp => ?_, HK.out.2⟩
      subst hp
      exact (HK.out.1.lt p.block rfl).1
end Go.Proofs.YtnlhacgihmelhaaGreatDoor
end

section
namespace Go.Proofs.YtnlhacgihmelhaaGreatDoor
open Go.RowKit

set_option maxHeartbeats 1000000 in
set_option maxRecDepth 20000 in
theorem vTask {K : Nat → Prop} {V : Nat} {b : Vm.Bk} {p : List Cd.FnV} {t : Ev.Tsk} {s : Vm.Fs} {w : World} (h : Vm.Own K V b p t s w) (hn : t.args.length ≤ 100000) (hp : t.path.size ≤ 1000000) :
    Calls Tryz.prog 31 #[.pointer (some ⟨V, 0, none⟩)] w (Vm.OwnP t w) := by
  obtain ⟨W, hW⟩ : ∃ W, W = w.alloc (.cells #[.string ⟨#[]⟩, .int .i64 0, .slice none 0 0, .int .i64 0] 41) := ⟨_, rfl⟩
  have hb : Below w.heap.size w W := by rw [hW]; exact Cd.fn1 _ _ _
  have hT : W.heap[w.heap.size]? = some (.cells #[.string ⟨#[]⟩, .int .i64 0, .slice none 0 0, .int .i64 0] 41 (0, 0)) := by rw [hW]; exact heap_alloc_new w _
  have hB := h.below hb
  have HT := Lib.hid hT
  have HB := Lib.hid hb
  have HIS := Lib.hid (vis V b.F W hB.c)
  have HOW := Lib.hid (vown t b.A b.ac W hB.hf.args.li hn hp)
  have HI : Hid ((Tryz.prog.info? 41).map (·.size) = some 4) := Ev.task_size
  have v0 := hB.c
  have c0 : W.cell? ⟨b.F, 0, none⟩ = some (.string t.path) := hB.hf.fr.cell 0
  have c1 : W.cell? ⟨b.F, 1, none⟩ = some (.int .i64 t.fn) := hB.hf.fr.cell 1
  have c2 : W.cell? ⟨b.F, 2, none⟩ = some (.slice b.A t.args.length b.ac) := hB.hf.fr.cell 2
  have c3 : W.cell? ⟨b.F, 3, none⟩ = some (.int .i64 (t.fuel : Int)) := hB.hf.fr.cell 3
  clear h hb hT hB hn hp
  go_enter Tryz.func31, Tryz.ntmps31
  go_upto_region 1 with fail
  rw [← hW]
  clear hW
  obtain ⟨Y, hYe⟩ : ∃ Y, Y = w.heap.size := ⟨_, rfl⟩
  rw [← hYe] at HT ⊢
  have HYE := Lib.hid hYe
  clear hYe
  go_wp2_with fail
  refine HIS.out.mono ?_
  rintro e w1 ⟨rfl, rfl⟩
  go_wp2_with fail
  refine HOW.out.mono ?_
  rintro e w4 ⟨A', c', rfl, ho⟩
  have hY4 := (ho.out.2.2.block Y (Cd.ltH HT.out)).trans HT.out
  have y0 : w4.cell? ⟨Y, 0, none⟩ = some (.string ⟨#[]⟩) := cell_of_row _ _ 0 _ _ _ hY4
  have y1 : w4.cell? ⟨Y, 1, none⟩ = some (.int .i64 0) := cell_of_row _ _ 1 _ _ _ hY4
  have y2 : w4.cell? ⟨Y, 2, none⟩ = some (.slice none 0 0) := cell_of_row _ _ 2 _ _ _ hY4
  have y3 : w4.cell? ⟨Y, 3, none⟩ = some (.int .i64 0) := cell_of_row _ _ 3 _ _ _ hY4
  have yf0 := frozen_of_row _ _ 0 _ _ hY4
  have yf1 := frozen_of_row _ _ 1 _ _ hY4
  have yf2 := frozen_of_row _ _ 2 _ _ hY4
  have yf3 := frozen_of_row _ _ 3 _ _ hY4
  have HRW := Lib.hid (Ev.set4_heap (x := .string t.path) (y := .int .i64 t.fn) (z := .slice A' t.args.length c') (u := .int .i64 (t.fuel : Int)) hY4)
  have HFIN : Hid (Vm.OwnP t w (.returned (.agg #[.string t.path, .int .i64 t.fn, .slice A' t.args.length c', .int .i64 (t.fuel : Int)])) ((((w4.setCell ⟨Y, 0, none⟩ (.string t.path)).setCell ⟨Y, 1, none⟩ (.int .i64 t.fn)).setCell ⟨Y, 2, none⟩ (.slice A' t.args.length c')).setCell ⟨Y, 3, none⟩ (.int .i64 (t.fuel : Int)))) := by
    have h1 := HB.out.size
    have h2 := Cd.ltH HT.out
    have hYw : w.heap.size ≤ Y := by have := HYE.out; omega
    have hb4 : Below w.heap.size w w4 := HB.out.trans (ho.out.2.2.mono h1)
    have hm : Gm.Mvg (fun i => W.heap.size ≤ i) (fun i => W.heap.size ≤ i) w4 ((((w4.setCell ⟨Y, 0, none⟩ (.string t.path)).setCell ⟨Y, 1, none⟩ (.int .i64 t.fn)).setCell ⟨Y, 2, none⟩ (.slice A' t.args.length c')).setCell ⟨Y, 3, none⟩ (.int .i64 (t.fuel : Int))) :=
      Ev.mvg_set (Ev.mvg_set (Ev.mvg_set (Ev.mvg_set (Gm.Mvg.refl _ _) (fun i _ hi => by omega) _ _) (fun i _ hi => by omega) _ _) (fun i _ hi => by omega) _ _) (fun i _ hi => by omega) _ _
    have hl := (⟨ho.out.1, fun hn p hp => ho.out.2.1 (Ev.icells_ne hn) p hp⟩ : Vm.LOk (fun i => W.heap.size ≤ i) w4 A' (icells t.args)).mv hm
    refine ⟨A', c', rfl, hl.li, fun hn p hp => ?_, Ev.set4_below hb4 hYw⟩
    have := ho.out.2.1 hn p hp
    omega
  clear hY4 ho v0 c0 c1 c2 c3 HOW HIS
  go_wp2_with fail
  refine bodyPost_ret (v := .agg #[.string t.path, .int .i64 t.fn, .slice A' t.args.length c', .int .i64 (t.fuel : Int)]) (results_cell_row Tryz.results31 _ _ Y 41 #[.string t.path, .int .i64 t.fn, .slice A' t.args.length c', .int .i64 (t.fuel : Int)] (0, 0) _ rfl HRW.out Tryz.underlying41 rfl HI.out) rfl ?_
  exact HFIN.out

set_option maxHeartbeats 1000000 in
set_option maxRecDepth 20000 in
theorem vTask_nil (w : World) : Calls Tryz.prog 31 #[.pointer none] w fun e w' => e = .returned (.agg #[.string ⟨#[]⟩, .int .i64 0, .slice none 0 0, .int .i64 0]) ∧ Below w.heap.size w w' := by
  obtain ⟨W, hW⟩ : ∃ W, W = w.alloc (.cells #[.string ⟨#[]⟩, .int .i64 0, .slice none 0 0, .int .i64 0] 41) := ⟨_, rfl⟩
  have hb : Below w.heap.size w W := by rw [hW]; exact Cd.fn1 _ _ _
  have hY4 : W.heap[w.heap.size]? = some (.cells #[.string ⟨#[]⟩, .int .i64 0, .slice none 0 0, .int .i64 0] 41 (0, 0)) := by rw [hW]; exact heap_alloc_new w _
  have HI : Hid ((Tryz.prog.info? 41).map (·.size) = some 4) := Ev.task_size
  have HB := Lib.hid hb
  clear hb
  go_enter Tryz.func31, Tryz.ntmps31
  go_upto_region 1 with fail
  rw [← hW]
  clear hW
  obtain ⟨Y, hYe⟩ : ∃ Y, Y = w.heap.size := ⟨_, rfl⟩
  rw [← hYe] at hY4 ⊢
  have HFIN : Hid (Below w.heap.size w ((((W.setCell ⟨Y, 0, none⟩ (.string ⟨#[]⟩)).setCell ⟨Y, 1, none⟩ (.int .i64 0)).setCell ⟨Y, 2, none⟩ (.slice none 0 0)).setCell ⟨Y, 3, none⟩ (.int .i64 0))) := Ev.set4_below HB.out (by omega)
  clear hYe
  have y0 : W.cell? ⟨Y, 0, none⟩ = some (.string ⟨#[]⟩) := cell_of_row _ _ 0 _ _ _ hY4
  have y1 : W.cell? ⟨Y, 1, none⟩ = some (.int .i64 0) := cell_of_row _ _ 1 _ _ _ hY4
  have y2 : W.cell? ⟨Y, 2, none⟩ = some (.slice none 0 0) := cell_of_row _ _ 2 _ _ _ hY4
  have y3 : W.cell? ⟨Y, 3, none⟩ = some (.int .i64 0) := cell_of_row _ _ 3 _ _ _ hY4
  have yf0 := frozen_of_row _ _ 0 _ _ hY4
  have yf1 := frozen_of_row _ _ 1 _ _ hY4
  have yf2 := frozen_of_row _ _ 2 _ _ hY4
  have yf3 := frozen_of_row _ _ 3 _ _ hY4
  have HRW := Lib.hid (Ev.set4_heap (x := .string ⟨#[]⟩) (y := .int .i64 0) (z := .slice none 0 0) (u := .int .i64 0) hY4)
  clear hY4
  go_wp2_with fail
  refine (vis_nil _).mono ?_
  rintro e w1 ⟨rfl, rfl⟩
  go_wp2_with fail
  refine bodyPost_ret (v := .agg #[.string ⟨#[]⟩, .int .i64 0, .slice none 0 0, .int .i64 0]) (results_cell_row Tryz.results31 _ _ Y 41 #[.string ⟨#[]⟩, .int .i64 0, .slice none 0 0, .int .i64 0] (0, 0) _ rfl HRW.out Tryz.underlying41 rfl HI.out) rfl ?_
  exact ⟨rfl, HFIN.out⟩

namespace Vm
open Cd Ev
theorem kcells_modify {l : List Kd} {j : Nat} (hj : j < l.length) (r : Res) : kcells (l.modify j fun k => { k with r := r, given := true }) = (((kcells l).set (j * 4) (.int .i64 r.val)).set (j * 4 + 1) (.int .i64 r.err)).set (j * 4 + 3) (.bool true) := by
  induction l generalizing j with
  | nil => simp at hj
  | cons x l ih =>
    have e : kcells (x :: l) = kc1 x ++ kcells l := rfl
    cases j with
    | zero =>
      rw [e]
      rfl
    | succ j =>
      have h4 : (kc1 x).length = 4 := rfl
      rw [List.modify_succ_cons]
      show kc1 x ++ kcells (l.modify j _) = _
      rw [ih (by simpa using hj), e]
      rw [List.set_append_right _ _ (by omega), List.set_append_right _ _ (by omega), List.set_append_right _ _ (by omega), h4]
      rw [show (j + 1) * 4 - 4 = j * 4 by omega, show (j + 1) * 4 + 1 - 4 = j * 4 + 1 by omega, show (j + 1) * 4 + 3 - 4 = j * 4 + 3 by omega]
/-- A child that was given what it came to. -/
theorem Own.give {K : Nat → Prop} {V : Nat} {b : Bk} {p : List FnV} {t : Tsk} {s : Fs} {w : World} (h : Own K V b p t s w) {j g cu : Nat} (hj : j < s.kids.length) (hu : b.u = .slice (some ⟨g, 0, none⟩) s.kids.length cu) (r : Res) :
    Own K V b p t { s with kids := s.kids.modify j fun k => { k with r := r, given := true } } (((w.setCell ⟨g, j * 4, none⟩ (.int .i64 r.val)).setCell ⟨g, j * 4 + 1, none⟩ (.int .i64 r.err)).setCell ⟨g, j * 4 + 3, none⟩ (.bool true)) ∧
    Gm.Mvg (KOff b) (KOff b) w (((w.setCell ⟨g, j * 4, none⟩ (.int .i64 r.val)).setCell ⟨g, j * 4 + 1, none⟩ (.int .i64 r.err)).setCell ⟨g, j * 4 + 3, none⟩ (.bool true)) := by
  have hub : b.u.ownBlock = some g := by rw [hu]; rfl
  have hgF : g ≠ b.F := fun e => h.hf.fr.nu (by rw [hub, e])
  have hgR : g ≠ b.R := fun e => h.hf.fr.nr (by rw [hub, e])
  have hk : ∀ i, i ≠ g → (((w.setCell ⟨g, j * 4, none⟩ (.int .i64 r.val)).setCell ⟨g, j * 4 + 1, none⟩ (.int .i64 r.err)).setCell ⟨g, j * 4 + 3, none⟩ (.bool true)).heap[i]? = w.heap[i]? := fun i hi =>
    (Below.heap_setCell _ _ _ _ hi).trans ((Below.heap_setCell _ _ _ _ hi).trans (Below.heap_setCell _ _ _ _ hi))
  have hne : ∀ i, KOff b i → i ≠ g := fun i hi e => hi.2.2 (by rw [hub, e])
  have mv : Gm.Mvg (KOff b) (KOff b) w (((w.setCell ⟨g, j * 4, none⟩ (.int .i64 r.val)).setCell ⟨g, j * 4 + 1, none⟩ (.int .i64 r.err)).setCell ⟨g, j * 4 + 3, none⟩ (.bool true)) :=
    mvg_set (mvg_set (mvg_set (Gm.Mvg.refl _ _) (fun i _ ho => hne i ho) _ _) (fun i _ ho => hne i ho) _ _) (fun i _ ho => hne i ho) _ _
  have m2 : Gm.Mvg (fun i => KOff b i ∧ K i) (fun i => KOff b i ∧ K i) w (((w.setCell ⟨g, j * 4, none⟩ (.int .i64 r.val)).setCell ⟨g, j * 4 + 1, none⟩ (.int .i64 r.err)).setCell ⟨g, j * 4 + 3, none⟩ (.bool true)) := ⟨mv.os, mv.tape, mv.output, mv.size, fun i hi ho => mv.block i hi ho.1, fun i hi ho => ho⟩
  have hlen : (s.kids.modify j fun k => { k with r := r, given := true }).length = s.kids.length := List.length_modify ..
  refine ⟨⟨(mv.block V h.lt h.vo).trans h.vb, h.vo, h.vk, ⟨⟨?_, (hk _ (fun e => hgR e.symm)).trans h.hf.fr.regs, ?_, h.hf.fr.ne, h.hf.fr.nu, h.hf.fr.nr⟩, h.hf.o1, h.hf.o2, h.hf.o3, h.hf.args.mv m2, h.hf.ops.mv m2, h.hf.takes.mv m2, fun i hi => h.hf.fresh i (Nat.le_trans mv.size hi)⟩⟩, mv⟩
  · exact (hk _ (fun e => hgF e.symm)).trans h.hf.fr.obj
  · show World.ownsRow _ _ _ _ _ (s.kids.modify j _).length _
    rw [hlen, kcells_modify hj]
    have hrow := h.hf.fr.row
    rw [hu] at hrow ⊢
    obtain ⟨hl, h0 | ⟨g', cap, cur, e, hg, hh, hn, hcap, hsz, ht⟩⟩ := hrow
    · injection h0.1 with h1
      cases h1
    · injection e with e1 e2 e3
      injection e1 with e1
      injection e1 with e1
      subst e1 e3
      have h3 := heap_setCell_same _ _ (j * 4 + 3) _ _ (.bool true) (heap_setCell_same _ _ (j * 4 + 1) _ _ (.int .i64 r.err) (heap_setCell_same w g (j * 4) _ _ (.int .i64 r.val) hh))
      refine ⟨by simpa using hl, .inr ⟨g, cu, _, rfl, hg, h3, hn, hcap, by simpa using hsz, ?_⟩⟩
      rw [← ht]
      simp only [Array.toList_setIfInBounds, List.take_set]
end Vm
end Go.Proofs.YtnlhacgihmelhaaGreatDoor
end

section
namespace Go.Proofs.YtnlhacgihmelhaaGreatDoor
open Go.RowKit

namespace Vm
open Cd Ev
def GiveP (K : Nat → Prop) (V : Nat) (b : Bk) (p : List FnV) (t : Tsk) (s : Fs) (kid : Int) (r : Res) (w : World) (e : Ending) (w' : World) : Prop :=
  e = .returned (.int .i64 (giveE s kid)) ∧ Own K V b p t (giveS s kid r) w' ∧ Gm.Mvg (KOff b) (KOff b) w w'
theorem GiveP.no {K : Nat → Prop} {V : Nat} {b : Bk} {p : List FnV} {t : Tsk} {s : Fs} {kid : Int} {r : Res} {w w' : World} {E : Int} (hE : giveE s kid = E) (h0 : E ≠ 0) (h : Own K V b p t s w) (hb : Below w.heap.size w w') : GiveP K V b p t s kid r w (.returned (.int .i64 E)) w' := by
  refine ⟨by rw [hE], ?_, Gm.Mvg.of_below hb⟩
  unfold giveS
  rw [if_neg (by rw [hE]; exact h0)]
  exact h.below hb
/-- A cell of a row of children, as a store asks for it. -/
theorem kid_row {w : World} {n c g : Nat} {l : List Kd} (h : w.ownsRow 0 124 4 (.slice (some ⟨g, 0, none⟩) n c) n (kcells l)) (j : Nat) : w.frozen? ⟨g, j, none⟩ = false := by
  obtain ⟨hl, h0 | ⟨g', cap, cur, e, hg, hh, hn, hcap, hsz, ht⟩⟩ := h
  · injection h0.1 with h1
    cases h1
  · injection e with e1 e2 e3
    injection e1 with e1
    injection e1 with e1
    subst e1
    exact frozen_of_row _ _ j _ _ hh
end Vm

set_option maxHeartbeats 1000000 in
set_option maxRecDepth 20000 in
theorem vGive {K : Nat → Prop} {V : Nat} {b : Vm.Bk} {p : List Cd.FnV} {t : Ev.Tsk} {s : Vm.Fs} {w : World} (h : Vm.Own K V b p t s w) (hk16 : s.kids.length ≤ 16) (kid : Int) (r : Ev.Res) :
    Calls Tryz.prog 24 #[.pointer (some ⟨V, 0, none⟩), .int .i64 kid, .agg #[.int .i64 r.val, .int .i64 r.err]] w (Vm.GiveP K V b p t s kid r w) := by
  obtain ⟨W, hW⟩ : ∃ W, W = w.alloc (.cells #[.int .i64 r.val, .int .i64 r.err] 30) := ⟨_, rfl⟩
  have hb : Below w.heap.size w W := by rw [hW]; exact Cd.fn1 _ _ _
  have hR : W.heap[w.heap.size]? = some (.cells #[.int .i64 r.val, .int .i64 r.err] 30 (0, 0)) := by rw [hW]; exact heap_alloc_new w _
  have hB := h.below hb
  have HIS := Lib.hid (vis V b.F W hB.c)
  have v0 := hB.c
  have z0 : W.cell? ⟨w.heap.size, 0, none⟩ = some (.int .i64 r.val) := cell_of_row _ _ 0 _ _ _ hR
  have z1 : W.cell? ⟨w.heap.size, 1, none⟩ = some (.int .i64 r.err) := cell_of_row _ _ 1 _ _ _ hR
  obtain ⟨U, cu, hu⟩ := Ev.own_slice h.hf.fr.row
  have c9 : W.cell? ⟨b.F, 9, none⟩ = some (.slice U s.kids.length cu) := by rw [← hu]; exact hB.hf.fr.cell 9
  have c12 : W.cell? ⟨b.F, 12, none⟩ = some (.bool s.over) := hB.hf.fr.cell 12
  have HU := Lib.hid hu
  have HOW := Lib.hid h
  have HOB := Lib.hid hB
  have HB := Lib.hid hb
  have HK16 := Lib.hid hk16
  have HZF : Hid (w.heap.size ≠ b.F ∧ ∀ g, b.u.ownBlock = some g → w.heap.size ≠ g) := ⟨fun e => by have := h.hf.fr.ltF; omega, fun g hg e => by have := (h.hf.fr.row.lt g hg).2; omega⟩
  clear hR hB h hb hu hk16
  go_enter Tryz.func24, Tryz.ntmps24
  go_upto_region 1 with fail
  rw [← hW]
  clear hW
  obtain ⟨Z, hZe⟩ : ∃ Z, Z = w.heap.size := ⟨_, rfl⟩
  rw [← hZe] at z0 z1 HZF ⊢
  clear hZe
  by_cases h1 : kid < 1
  · have HE : Hid (Vm.giveE s kid = 5) := by show _ = _; unfold Vm.giveE; rw [if_pos (.inl h1)]
    go_wp2_with fail
    refine HIS.out.mono ?_
    rintro e w1 ⟨rfl, rfl⟩
    go_wp2_with fail
    go_ret
    exact Vm.GiveP.no HE.out (by decide) HOW.out HB.out
  · by_cases h2 : (s.kids.length : Int) < kid
    · have HE : Hid (Vm.giveE s kid = 5) := by show _ = _; unfold Vm.giveE; rw [if_pos (.inr h2)]
      go_wp2_with fail
      refine HIS.out.mono ?_
      rintro e w1 ⟨rfl, rfl⟩
      go_wp2_with fail
      go_ret
      exact Vm.GiveP.no HE.out (by decide) HOW.out HB.out
    · obtain ⟨j, hj⟩ : ∃ j : Nat, kid = (j : Int) + 1 := ⟨(kid - 1).toNat, by omega⟩
      have hjl : j < s.kids.length := by omega
      have hjt : (kid - 1).toNat = j := by omega
      have hw1 : IntKind.i64.wrap (kid - 1) = (j : Int) := by rw [IntKind.wrap_i64]; have := HK16.out; omega
      have j0 : (0 : Int) ≤ (j : Int) := by omega
      have j1 : (j : Int) < (s.kids.length : Int) := by omega
      have hrow := HOB.out.hf.fr.row
      rw [HU.out] at hrow
      obtain ⟨g, rfl, hg, k0, k1, k2, k3⟩ := Vm.k_at hrow hjl
      have kf0 := Vm.kid_row hrow (j * 4)
      have kf1 := Vm.kid_row hrow (j * 4 + 1)
      have kf3 := Vm.kid_row hrow (j * 4 + 3)
      have HE : Hid (Vm.giveE s kid = if s.kids[j].given = true then 7 else if s.over = true then 3 else 0) := by
        show _ = _
        unfold Vm.giveE
        rw [if_neg (by omega), hjt, List.getElem?_eq_getElem hjl]
        rfl
      obtain ⟨q, hq⟩ := HOB.out.give (r := r) hjl HU.out
      have HGV := Lib.hid (And.intro q hq)
      have HJT := Lib.hid hjt
      have HGZ : Hid (Z ≠ g) := HZF.out.2 g (by rw [HU.out]; rfl)
      obtain ⟨x, hx⟩ : ∃ x, x = s.kids[j] := ⟨_, rfl⟩
      rw [← hx] at k0 k1 k2 k3 HE
      have ea : (⟨g, 0, none⟩ : Addr).add (j * 4) = ⟨g, j * 4, none⟩ := by rw [Addr.add_mid, Nat.zero_add]
      clear hx hj hjl hjt hrow q hq hg
      cases hgv : x.given with
      | true =>
        rw [hgv] at k3 HE
        have HE2 : Hid (Vm.giveE s kid = 7) := by show _ = _; rw [HE.out, if_pos rfl]
        clear hgv
        go_wp2_with fail
        refine HIS.out.mono ?_
        rintro e w1 ⟨rfl, rfl⟩
        go_wp2_with fail
        go_ret
        exact Vm.GiveP.no HE2.out (by decide) HOW.out HB.out
      | false =>
        rw [hgv] at k3 HE
        cases hov : s.over with
        | true =>
          rw [hov] at c12 HE
          have HE2 : Hid (Vm.giveE s kid = 3) := by show _ = _; rw [HE.out, if_neg (by decide), if_pos rfl]
          clear hgv hov
          go_wp2_with fail
          refine HIS.out.mono ?_
          rintro e w1 ⟨rfl, rfl⟩
          go_wp2_with fail
          go_ret
          exact Vm.GiveP.no HE2.out (by decide) HOW.out HB.out
        | false =>
          rw [hov] at c12 HE
          have HE2 : Hid (Vm.giveE s kid = 0) := by show _ = _; rw [HE.out, if_neg (by decide), if_neg (by decide)]
          have HFIN : Hid (Vm.GiveP K V b p t s kid r w (.returned (.int .i64 0)) (((W.setCell ⟨g, j * 4, none⟩ (.int .i64 r.val)).setCell ⟨g, j * 4 + 1, none⟩ (.int .i64 r.err)).setCell ⟨g, j * 4 + 3, none⟩ (.bool true))) := by
            refine ⟨by rw [HE2.out], ?_, (Gm.Mvg.of_below HB.out).trans HGV.out.2⟩
            unfold Vm.giveS
            rw [if_pos HE2.out, HJT.out]
            exact HGV.out.1
          clear hgv hov HGV
          go_wp2_with fail
          refine HIS.out.mono ?_
          rintro e w1 ⟨rfl, rfl⟩
          go_wp2_with fail
          go_ret
          exact HFIN.out

theorem vGive_nil (w : World) (kid : Int) (r : Ev.Res) : Calls Tryz.prog 24 #[.pointer none, .int .i64 kid, .agg #[.int .i64 r.val, .int .i64 r.err]] w fun e w' => e = .returned (.int .i64 1) ∧ Below w.heap.size w w' := by
  obtain ⟨W, hW⟩ : ∃ W, W = w.alloc (.cells #[.int .i64 r.val, .int .i64 r.err] 30) := ⟨_, rfl⟩
  have hb : Below w.heap.size w W := by rw [hW]; exact Cd.fn1 _ _ _
  have HB := Lib.hid hb
  clear hb
  go_enter Tryz.func24, Tryz.ntmps24
  go_upto_region 1 with fail
  rw [← hW]
  clear hW
  go_wp2_with fail
  refine (vis_nil _).mono ?_
  rintro e w1 ⟨rfl, rfl⟩
  go_wp2_with fail
  go_ret
  exact ⟨rfl, HB.out⟩
end Go.Proofs.YtnlhacgihmelhaaGreatDoor
end
