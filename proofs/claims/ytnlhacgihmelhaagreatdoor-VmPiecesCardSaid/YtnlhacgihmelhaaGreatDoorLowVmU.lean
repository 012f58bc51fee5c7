/-
  Layer 14: the law's known program and run; the contract of its alive.
  Layer 14: the contract of the law's alive.
-/
import Derived.Test.YtnlhacgihmelhaaGreatDoorVmT
import Derived.Test.YtnlhacgihmelhaaGreatDoorLowCdN
section
namespace Go.Proofs.YtnlhacgihmelhaaGreatDoor
open Go.RowKit

namespace Vm
open Cd Ev
def smO1 : List OpV := [⟨12, 0, 0, 0, 1⟩, ⟨14, 0, 0, 0, 0⟩]
def smO2 : List OpV := [⟨1, 0, 0, 0, 5⟩, ⟨14, 0, 0, 0, 0⟩]
def smM (n : Nat) : List Fm := [⟨⟨0, 1, smO1⟩, some ⟨n + 1, 0, none⟩, 2⟩, ⟨⟨0, 1, smO2⟩, some ⟨n + 1 + 1, 0, none⟩, 2⟩]
def smP : List FnV := [⟨0, 1, smO1⟩, ⟨0, 1, smO2⟩]
def smT : Tsk := ⟨⟨#[]⟩, 0, [], 20⟩
theorem sm_fns (n : Nat) : fns (smM n) = smP := rfl
theorem sm_rng (n : Nat) : ∀ m ∈ smM n, m.f.Rng := fun m hm => by
  simp only [smM, List.mem_cons, List.not_mem_nil, or_false] at hm
  rcases hm with rfl | rfl
  · refine ⟨(by show (-9223372036854775808 : Int) ≤ 0 ∧ (0 : Int) ≤ 9223372036854775807; decide), (by show (-9223372036854775808 : Int) ≤ 1 ∧ (1 : Int) ≤ 9223372036854775807; decide), fun o ho => ?_, by show (2 : Nat) ≤ maxLen; unfold maxLen; omega⟩
    simp only [smO1, List.mem_cons, List.not_mem_nil, or_false] at ho
    rcases ho with rfl | rfl <;> exact ⟨by decide, by decide, by decide, by decide, by decide⟩
  · refine ⟨(by show (-9223372036854775808 : Int) ≤ 0 ∧ (0 : Int) ≤ 9223372036854775807; decide), (by show (-9223372036854775808 : Int) ≤ 1 ∧ (1 : Int) ≤ 9223372036854775807; decide), fun o ho => ?_, by show (2 : Nat) ≤ maxLen; unfold maxLen; omega⟩
    simp only [smO2, List.mem_cons, List.not_mem_nil, or_false] at ho
    rcases ho with rfl | rfl <;> exact ⟨by decide, by decide, by decide, by decide, by decide⟩
theorem sm_new : newE smP ⟨#[]⟩ 0 0 20 = 0 := by decide +kernel
def al0 : Fs := startF smP smT
def al1 : Fs := (runF smP smT 9 al0).2
def al2 : Fs := (runF smP smT 9 al1).2
def al3 : Fs := giveS al2 1 ⟨5, 0⟩
def al4 : Fs := (runF smP smT 9 al3).2
theorem al1v : stpV (runF smP smT 9 al0).1 = (2, ⟨#[1]⟩, 1, 0, 9, 0, 0) := by decide +kernel
theorem al2v : stpV (runF smP smT 9 al1).1 = (3, ⟨#[]⟩, 0, 0, 0, 0, 0) := by decide +kernel
theorem al4v : stpV (runF smP smT 9 al3).1 = (4, ⟨#[]⟩, 0, 0, 0, 5, 0) := by decide +kernel
theorem al2w : waitsL al2.kids 0 = [1] := by decide +kernel
theorem al2k : al2.kids.length = 1 := by decide +kernel
theorem al2g : giveE al2 1 = 0 := by decide +kernel
theorem al4g : giveE al4 1 = 7 := by decide +kernel
theorem al4h : giveE al4 2 = 5 := by decide +kernel
theorem al4k : al4.kids.length = 1 := by decide +kernel
theorem al4l : al4.left = 9 := by decide +kernel
theorem give_no {s : Fs} {k : Int} {r : Res} {E : Int} (h : giveE s k = E) (h0 : E ≠ 0) : giveS s k r = s := by
  unfold giveS
  rw [if_neg (by rw [h]; exact h0)]
/-- A program of two functions as a law writes it down. -/
theorem two_laid (w : World) (a1 r1 a2 r2 : Int) (o1 o2 : List OpV) (n1 n2 : Nat) (h1 : o1.length = n1) (h2 : o2.length = n2) :
    ∀ W0 W1 W2 W, W0 = w.alloc (.cells #[.slice (some ⟨w.heap.size + 1 + 1 + 1, 0, none⟩) 2 2] 24) → W1 = W0.alloc (.cells (ocells o1).toArray 72) → W2 = W1.alloc (.cells (ocells o2).toArray 72) →
      W = W2.alloc (.cells #[.int .i64 a1, .int .i64 r1, .slice (some ⟨w.heap.size + 1, 0, none⟩) n1 n1, .int .i64 a2, .int .i64 r2, .slice (some ⟨w.heap.size + 1 + 1, 0, none⟩) n2 n2] 110) →
    Prog W W.heap.size (some ⟨w.heap.size + 1 + 1 + 1, 0, none⟩) [⟨⟨a1, r1, o1⟩, some ⟨w.heap.size + 1, 0, none⟩, n1⟩, ⟨⟨a2, r2, o2⟩, some ⟨w.heap.size + 1 + 1, 0, none⟩, n2⟩] ∧
    W.heap[w.heap.size]? = some (.cells #[.slice (some ⟨w.heap.size + 1 + 1 + 1, 0, none⟩) 2 2] 24 (0, 0)) ∧ Below w.heap.size w W := by
  intro W0 W1 W2 W hW0 hW1 hW2 hW
  subst h1 h2
  have s0 : W0.heap.size = w.heap.size + 1 := by rw [hW0]; simp
  have s1 : W1.heap.size = w.heap.size + 2 := by rw [hW1]; simp [s0]
  have s2 : W2.heap.size = w.heap.size + 3 := by rw [hW2]; simp [s1]
  have s3 : W.heap.size = w.heap.size + 4 := by rw [hW]; simp [s2]
  have b0 : Below w.heap.size w W0 := by rw [hW0]; exact Cd.fn1 _ _ _
  have b1 : Below W0.heap.size W0 W1 := by rw [hW1]; exact Cd.fn1 _ _ _
  have b2 : Below W1.heap.size W1 W2 := by rw [hW2]; exact Cd.fn1 _ _ _
  have b3 : Below W2.heap.size W2 W := by rw [hW]; exact Cd.fn1 _ _ _
  have hF : W.heap[w.heap.size + 1 + 1 + 1]? = some (.cells #[.int .i64 a1, .int .i64 r1, .slice (some ⟨w.heap.size + 1, 0, none⟩) o1.length o1.length, .int .i64 a2, .int .i64 r2, .slice (some ⟨w.heap.size + 1 + 1, 0, none⟩) o2.length o2.length] 110 (0, 0)) := by
    rw [show w.heap.size + 1 + 1 + 1 = W2.heap.size by omega, hW]; exact heap_alloc_new W2 _
  have hO2 : W.heap[w.heap.size + 1 + 1]? = some (.cells (ocells o2).toArray 72 (0, 0)) := by
    rw [b3.block (w.heap.size + 1 + 1) (by omega), show w.heap.size + 1 + 1 = W1.heap.size by omega, hW2]; exact heap_alloc_new W1 _
  have hO1 : W.heap[w.heap.size + 1]? = some (.cells (ocells o1).toArray 72 (0, 0)) := by
    rw [b3.block (w.heap.size + 1) (by omega), b2.block (w.heap.size + 1) (by omega), show w.heap.size + 1 = W0.heap.size by omega, hW1]; exact heap_alloc_new W0 _
  have hP : W.heap[w.heap.size]? = some (.cells #[.slice (some ⟨w.heap.size + 1 + 1 + 1, 0, none⟩) 2 2] 24 (0, 0)) := by
    rw [b3.block w.heap.size (by omega), b2.block w.heap.size (by omega), b1.block w.heap.size (by omega), hW0]; exact heap_alloc_new w _
  refine ⟨⟨fun _ => ⟨_, rfl, by show _ < _; dsimp only; omega, fun j u hu => World.news_of_block hF j u hu⟩, fun m hm => ?_⟩, hP, b0.trans ((b1.trans ((b2.trans (b3.mono b2.size)).mono b1.size)).mono b0.size)⟩
  simp only [List.mem_cons, List.not_mem_nil, or_false] at hm
  rcases hm with rfl | rfl
  · exact fun _ => ⟨_, rfl, by show _ < _; dsimp only; omega, fun j u hu => World.news_of_block hO1 j u (by simpa using hu)⟩
  · exact fun _ => ⟨_, rfl, by show _ < _; dsimp only; omega, fun j u hu => World.news_of_block hO2 j u (by simpa using hu)⟩
def SmP (w : World) (e : Ending) (w' : World) : Prop := ∃ (A : Option Addr) (n : Nat), e = .returned (.agg #[.slice A 2 2]) ∧ Prog w' w'.heap.size A (smM n) ∧ Below w.heap.size w w'
end Vm

set_option maxHeartbeats 1000000 in
set_option maxRecDepth 20000 in
theorem vsmall (w : World) : Calls Tryz.prog 40 #[] w (Vm.SmP w) := by
  go_enter Tryz.func40, Tryz.ntmps40
  go_wp2_with fail
  have h := Vm.two_laid w 0 1 0 1 Vm.smO1 Vm.smO2 2 2 rfl rfl _ _ _ _ rfl rfl rfl rfl
  refine bodyPost_ret (v := .agg #[.slice (some ⟨w.heap.size + 1 + 1 + 1, 0, none⟩) 2 2]) (results_cell_row Tryz.results40 _ _ w.heap.size 24 #[.slice (some ⟨w.heap.size + 1 + 1 + 1, 0, none⟩) 2 2] (0, 0) _ rfl h.2.1 Tryz.underlying24 rfl Cd.pgSize) rfl ⟨some ⟨w.heap.size + 1 + 1 + 1, 0, none⟩, w.heap.size, rfl, h.1, h.2.2⟩
end Go.Proofs.YtnlhacgihmelhaaGreatDoor
end

section
namespace Go.Proofs.YtnlhacgihmelhaaGreatDoor
open Go.RowKit

namespace Vm
open Cd Ev
theorem below_mv {lo : Nat} {off off' : Nat → Prop} {w a c : World} (h : Below lo w a) (ho : ∀ i, i < lo → off i) (m : Gm.Mvg off off' a c) (hlo : lo ≤ a.heap.size) : Below lo w c := h.trans ⟨m.os, m.tape, m.output, m.size, fun i hi => m.block i (Nat.lt_of_lt_of_le hi hlo) (ho i hi)⟩
/-- The known frame, as alive goes on with it. -/
structure Kn (w0 : World) (V : Nat) (p : List FnV) (t : Tsk) (s : Fs) (b : Bk) (w : World) : Prop where
  own : Own (fun _ => True) V b p t s w
  bel : Below w0.heap.size w0 w
  off : ∀ i, i < w0.heap.size → KOff b i
theorem Kn.below {w0 : World} {V : Nat} {p : List FnV} {t : Tsk} {s : Fs} {b : Bk} {w w' : World} (h : Kn w0 V p t s b w) (hb : Below w.heap.size w w') : Kn w0 V p t s b w' := ⟨h.own.below hb, h.bel.trans (hb.mono h.bel.size), h.off⟩
theorem Kn.mv {w0 : World} {V : Nat} {p : List FnV} {t : Tsk} {s s' : Fs} {b b' : Bk} {w w' : World} (h : Kn w0 V p t s b w) (ho : Own (fun _ => True) V b' p t s' w') (m : Gm.Mvg (KOff b) (KOff b') w w') : Kn w0 V p t s' b' w' :=
  ⟨ho, below_mv h.bel h.off m h.bel.size, fun i hi => m.keep i (Nat.lt_of_lt_of_le hi h.bel.size) (h.off i hi)⟩
/-- Run, of the known frame, at a later world. -/
theorem Kn.run {w0 : World} {V : Nat} {p : List FnV} {t : Tsk} {s : Fs} {b : Bk} {w : World} (h : Kn w0 V p t s b w) (he : PE p t) (hok : FOk p t s) (n : Nat) (hn1 : 1 ≤ n) (hn : (n : Int) ≤ 9223372036854775807) (k : Int) (pa : ByteArray) (fn : Int) (m : Nat) (fu va er : Int) (hv : stpV (runF p t n s).1 = (k, pa, fn, m, fu, va, er)) :
    Calls Tryz.prog 21 #[.pointer (some ⟨V, 0, none⟩), .int .i64 (n : Int)] w fun e w' => ∃ (b' : Bk) (A : Option Addr) (c : Nat), e = .returned (.tuple #[.agg #[.int .u8 k, .string pa, .int .i64 fn, .slice A m c, .int .i64 fu, .int .i64 va, .int .i64 er], .int .i64 0]) ∧ Hid (Kn w0 V p t (runF p t n s).2 b' w' ∧ Gm.Mvg (KOff b) (KOff b') w w') := by
  refine (vRun h.own he hok n hn1 hn).mono ?_
  rintro e w' ⟨b', k2, pa2, fn2, A, m2, c, fu2, va2, er2, rfl, ho⟩
  obtain ⟨h1, h2, h3, h4⟩ := ho.out
  rw [hv] at h1
  simp only [Prod.mk.injEq] at h1
  obtain ⟨rfl, rfl, rfl, rfl, rfl, rfl, rfl⟩ := h1
  exact ⟨b', A, c, rfl, h.mv h2 h3, h3⟩
theorem Kn.give {w0 : World} {V : Nat} {p : List FnV} {t : Tsk} {s : Fs} {b : Bk} {w : World} (h : Kn w0 V p t s b w) (hok : FOk p t s) (kid : Int) (r : Res) (E : Int) (hE : giveE s kid = E) :
    Calls Tryz.prog 24 #[.pointer (some ⟨V, 0, none⟩), .int .i64 kid, .agg #[.int .i64 r.val, .int .i64 r.err]] w fun e w' => e = .returned (.int .i64 E) ∧ Hid (Kn w0 V p t (giveS s kid r) b w' ∧ Gm.Mvg (KOff b) (KOff b) w w') := by
  refine (vGive h.own hok.kids kid r).mono ?_
  rintro e w' ⟨h1, h2, h3⟩
  exact ⟨by rw [h1, hE], h.mv h2 h3, h3⟩
theorem tfield3 (v0 v1 v2 v3 : Value) (w : World) : (Instr.field 41 (.agg #[v0, v1, v2, v3]) 3).run Tryz.prog w = .ok v3 w := by kernel_rfl
theorem sm_pe : PE smP smT := (newE_ok (xs := []) sm_new).2
theorem al0ok : FOk smP smT al0 := start_ok sm_pe.tok sm_pe.good
theorem al1ok : FOk smP smT al1 := run_ok sm_pe.tok sm_pe.good 9 al0ok
theorem al2ok : FOk smP smT al2 := run_ok sm_pe.tok sm_pe.good 9 al1ok
theorem al3ok : FOk smP smT al3 := give_ok al2ok 1 ⟨5, 0⟩
theorem al4ok : FOk smP smT al4 := run_ok sm_pe.tok sm_pe.good 9 al3ok
/-- A row off the frame's blocks stays. -/
theorem row_mv {b b' : Bk} {B : Nat} {w w' : World} {o : Obj} (h : w.heap[B]? = some o) (ho : KOff b B) (m : Gm.Mvg (KOff b) (KOff b') w w') : w'.heap[B]? = some o ∧ KOff b' B :=
  ⟨(m.block B (by
    apply Classical.byContradiction
    intro hn
    rw [Array.getElem?_eq_none (by omega)] at h
    cases h) ho).trans h, m.keep B (by
    apply Classical.byContradiction
    intro hn
    rw [Array.getElem?_eq_none (by omega)] at h
    cases h) ho⟩
end Vm

set_option maxHeartbeats 4000000 in
set_option maxRecDepth 20000 in
theorem alive14 (w : World) (hL : Ck.Laid w) : Calls Tryz.prog 18 #[] w fun e w' => e = .returned (.bool true) ∧ Below w.heap.size w w' := by
  have HL := Lib.hid hL
  clear hL
  go_enter Tryz.func18, Tryz.ntmps18
  go_wp2_with fail
  refine (vsmall _).mono ?_
  rintro e w1 ⟨A1, n1, rfl, hp1, hb1⟩
  have HNW := Lib.hid (vNew (Vm.smM n1) (Vm.sm_rng n1) (by unfold maxLen Vm.smM; simp) A1 2 ⟨#[]⟩ (by decide) 0 [] 20 none 0 w1 hp1 (HL.out.later hb1) (fun h => absurd h (by simp [icells])))
  have H1 := Lib.hid hb1
  clear hp1 hb1
  go_wp2_with fail
  refine HNW.out.mono ?_
  rintro e w2 ⟨hb2, hh⟩
  rw [Vm.sm_fns] at hh
  rcases hh with ⟨h0, -⟩ | ⟨-, V, b0, rfl, hK, -, hoff⟩
  · exact absurd Vm.sm_new h0
  have HK0 : Hid (Vm.Kn w V Vm.smP Vm.smT Vm.al0 b0 w2) := ⟨hK (fun _ => True) (fun _ _ => trivial), H1.out.trans (hb2.mono H1.out.size), fun i hi => hoff i (Nat.lt_of_lt_of_le hi H1.out.size)⟩
  clear hb2 hK hoff HNW H1
  have HR := Lib.hid (HK0.out.run Vm.sm_pe Vm.al0ok 9 (by decide) (by decide) 2 ⟨#[1]⟩ 1 0 9 0 0 Vm.al1v)
  go_wp2_with fail
  refine HR.out.mono ?_
  rintro e w3 ⟨b1, A3, c3, rfl, h3⟩
  obtain ⟨W3, hW3⟩ : ∃ X, X = w3.alloc (.cells #[.int .u8 2, .string ⟨#[1]⟩, .int .i64 1, .slice A3 0 c3, .int .i64 9, .int .i64 0, .int .i64 0] 59) := ⟨_, rfl⟩
  have hb3 : Below w3.heap.size w3 W3 := by rw [hW3]; exact Cd.fn1 _ _ _
  have HK1 : Hid (Vm.Kn w V Vm.smP Vm.smT Vm.al1 b1 W3) := h3.out.1.below hb3
  have HB3 : Hid (W3.heap[w3.heap.size]? = some (.cells #[.int .u8 2, .string ⟨#[1]⟩, .int .i64 1, .slice A3 0 c3, .int .i64 9, .int .i64 0, .int .i64 0] 59 (0, 0)) ∧ Vm.KOff b1 w3.heap.size) := ⟨by rw [hW3]; exact heap_alloc_new w3 _, h3.out.1.own.hf.fr.lt _ (Nat.le_refl _)⟩
  clear hb3 h3 HR HK0
  go_upto_region 5 with fail
  rw [← hW3]
  clear hW3
  obtain ⟨B3, hB3⟩ : ∃ x, x = w3.heap.size := ⟨_, rfl⟩
  rw [← hB3] at HB3 ⊢
  clear hB3
  have HR := Lib.hid (HK1.out.run Vm.sm_pe Vm.al1ok 9 (by decide) (by decide) 3 ⟨#[]⟩ 0 0 0 0 0 Vm.al2v)
  go_wp2_with fail
  refine HR.out.mono ?_
  rintro e w4 ⟨b2, A4, c4, rfl, h4⟩
  obtain ⟨W4, hW4⟩ : ∃ X, X = w4.alloc (.cells #[.int .u8 3, .string ⟨#[]⟩, .int .i64 0, .slice A4 0 c4, .int .i64 0, .int .i64 0, .int .i64 0] 59) := ⟨_, rfl⟩
  have hb4 : Below w4.heap.size w4 W4 := by rw [hW4]; exact Cd.fn1 _ _ _
  have HK2 : Hid (Vm.Kn w V Vm.smP Vm.smT Vm.al2 b2 W4) := h4.out.1.below hb4
  have HB5 : Hid (W4.heap[w4.heap.size]? = some (.cells #[.int .u8 3, .string ⟨#[]⟩, .int .i64 0, .slice A4 0 c4, .int .i64 0, .int .i64 0, .int .i64 0] 59 (0, 0)) ∧ Vm.KOff b2 w4.heap.size) := ⟨by rw [hW4]; exact heap_alloc_new w4 _, h4.out.1.own.hf.fr.lt _ (Nat.le_refl _)⟩
  have HB3 : Hid (W4.heap[B3]? = some (.cells #[.int .u8 2, .string ⟨#[1]⟩, .int .i64 1, .slice A3 0 c3, .int .i64 9, .int .i64 0, .int .i64 0] 59 (0, 0)) ∧ Vm.KOff b2 B3) := Vm.row_mv HB3.out.1 HB3.out.2 (h4.out.2.trans (Gm.Mvg.of_below hb4))
  clear hb4 h4 HR HK1
  go_upto_region 6 with fail
  rw [← hW4]
  clear hW4
  obtain ⟨B5, hB5⟩ : ∃ x, x = w4.heap.size := ⟨_, rfl⟩
  rw [← hB5] at HB5 ⊢
  clear hB5
  have HWT := Lib.hid (vWaits HK2.out.own Vm.al2ok.kids)
  go_wp2_with fail
  refine HWT.out.mono ?_
  rintro e w5 ⟨A7, c7, rfl, h5⟩
  rw [Vm.al2w] at h5 ⊢
  have HK2b : Hid (Vm.Kn w V Vm.smP Vm.smT Vm.al2 b2 w5) := HK2.out.below h5.out.2.2
  have HW7 : Hid (Vm.LOk (Vm.KOff b2) w5 A7 (icells [1])) := ⟨h5.out.1, fun _ p hp => HK2.out.own.hf.fr.lt _ (h5.out.2.1 p hp)⟩
  have HB3 : Hid (w5.heap[B3]? = some (.cells #[.int .u8 2, .string ⟨#[1]⟩, .int .i64 1, .slice A3 0 c3, .int .i64 9, .int .i64 0, .int .i64 0] 59 (0, 0)) ∧ Vm.KOff b2 B3) := Vm.row_mv HB3.out.1 HB3.out.2 (Gm.Mvg.of_below h5.out.2.2)
  have HB5 : Hid (w5.heap[B5]? = some (.cells #[.int .u8 3, .string ⟨#[]⟩, .int .i64 0, .slice A4 0 c4, .int .i64 0, .int .i64 0, .int .i64 0] 59 (0, 0)) ∧ Vm.KOff b2 B5) := Vm.row_mv HB5.out.1 HB5.out.2 (Gm.Mvg.of_below h5.out.2.2)
  clear h5 HWT HK2
  have HG := Lib.hid (HK2b.out.give Vm.al2ok 1 ⟨5, 0⟩ 0 Vm.al2g)
  go_wp2_with fail
  refine HG.out.mono ?_
  rintro e w6 ⟨rfl, h6⟩
  have HK3 : Hid (Vm.Kn w V Vm.smP Vm.smT Vm.al3 b2 w6) := h6.out.1
  have HW7 : Hid (Vm.LOk (Vm.KOff b2) w6 A7 (icells [1])) := HW7.out.mv h6.out.2
  have HB3 : Hid (w6.heap[B3]? = some (.cells #[.int .u8 2, .string ⟨#[1]⟩, .int .i64 1, .slice A3 0 c3, .int .i64 9, .int .i64 0, .int .i64 0] 59 (0, 0)) ∧ Vm.KOff b2 B3) := Vm.row_mv HB3.out.1 HB3.out.2 h6.out.2
  have HB5 : Hid (w6.heap[B5]? = some (.cells #[.int .u8 3, .string ⟨#[]⟩, .int .i64 0, .slice A4 0 c4, .int .i64 0, .int .i64 0, .int .i64 0] 59 (0, 0)) ∧ Vm.KOff b2 B5) := Vm.row_mv HB5.out.1 HB5.out.2 h6.out.2
  clear h6 HG HK2b
  have HR := Lib.hid (HK3.out.run Vm.sm_pe Vm.al3ok 9 (by decide) (by decide) 4 ⟨#[]⟩ 0 0 0 5 0 Vm.al4v)
  go_wp2_with fail
  refine HR.out.mono ?_
  rintro e w7 ⟨b4, A9, c9, rfl, h7⟩
  obtain ⟨W7, hW7⟩ : ∃ X, X = w7.alloc (.cells #[.int .u8 4, .string ⟨#[]⟩, .int .i64 0, .slice A9 0 c9, .int .i64 0, .int .i64 5, .int .i64 0] 59) := ⟨_, rfl⟩
  have hb7 : Below w7.heap.size w7 W7 := by rw [hW7]; exact Cd.fn1 _ _ _
  have HK4 : Hid (Vm.Kn w V Vm.smP Vm.smT Vm.al4 b4 W7) := h7.out.1.below hb7
  have HB9 : Hid (W7.heap[w7.heap.size]? = some (.cells #[.int .u8 4, .string ⟨#[]⟩, .int .i64 0, .slice A9 0 c9, .int .i64 0, .int .i64 5, .int .i64 0] 59 (0, 0)) ∧ Vm.KOff b4 w7.heap.size) := ⟨by rw [hW7]; exact heap_alloc_new w7 _, h7.out.1.own.hf.fr.lt _ (Nat.le_refl _)⟩
  have HW7 : Hid (Vm.LOk (Vm.KOff b4) W7 A7 (icells [1])) := HW7.out.mv (h7.out.2.trans (Gm.Mvg.of_below hb7))
  have HB3 : Hid (W7.heap[B3]? = some (.cells #[.int .u8 2, .string ⟨#[1]⟩, .int .i64 1, .slice A3 0 c3, .int .i64 9, .int .i64 0, .int .i64 0] 59 (0, 0)) ∧ Vm.KOff b4 B3) := Vm.row_mv HB3.out.1 HB3.out.2 (h7.out.2.trans (Gm.Mvg.of_below hb7))
  have HB5 : Hid (W7.heap[B5]? = some (.cells #[.int .u8 3, .string ⟨#[]⟩, .int .i64 0, .slice A4 0 c4, .int .i64 0, .int .i64 0, .int .i64 0] 59 (0, 0)) ∧ Vm.KOff b4 B5) := Vm.row_mv HB5.out.1 HB5.out.2 (h7.out.2.trans (Gm.Mvg.of_below hb7))
  clear hb7 h7 HR HK3
  go_upto_region 9 with fail
  rw [← hW7]
  clear hW7
  obtain ⟨B9, hB9⟩ : ∃ x, x = w7.heap.size := ⟨_, rfl⟩
  rw [← hB9] at HB9 ⊢
  clear hB9
  have HG := Lib.hid (HK4.out.give Vm.al4ok 1 ⟨0, 0⟩ 7 Vm.al4g)
  rw [Vm.give_no Vm.al4g (by decide)] at HG
  go_wp2_with fail
  refine HG.out.mono ?_
  rintro e w8 ⟨rfl, h8⟩
  have HK4 : Hid (Vm.Kn w V Vm.smP Vm.smT Vm.al4 b4 w8) := h8.out.1
  have HW7 : Hid (Vm.LOk (Vm.KOff b4) w8 A7 (icells [1])) := HW7.out.mv h8.out.2
  have HB3 : Hid (w8.heap[B3]? = some (.cells #[.int .u8 2, .string ⟨#[1]⟩, .int .i64 1, .slice A3 0 c3, .int .i64 9, .int .i64 0, .int .i64 0] 59 (0, 0)) ∧ Vm.KOff b4 B3) := Vm.row_mv HB3.out.1 HB3.out.2 h8.out.2
  have HB5 : Hid (w8.heap[B5]? = some (.cells #[.int .u8 3, .string ⟨#[]⟩, .int .i64 0, .slice A4 0 c4, .int .i64 0, .int .i64 0, .int .i64 0] 59 (0, 0)) ∧ Vm.KOff b4 B5) := Vm.row_mv HB5.out.1 HB5.out.2 h8.out.2
  have HB9 : Hid (w8.heap[B9]? = some (.cells #[.int .u8 4, .string ⟨#[]⟩, .int .i64 0, .slice A9 0 c9, .int .i64 0, .int .i64 5, .int .i64 0] 59 (0, 0)) ∧ Vm.KOff b4 B9) := Vm.row_mv HB9.out.1 HB9.out.2 h8.out.2
  clear h8 HG
  have HR := Lib.hid (vRun_arg HK4.out.own 0 (by decide))
  go_wp2_with fail
  refine HR.out.mono ?_
  rintro e w9 ⟨rfl, hb9⟩
  have HK4 : Hid (Vm.Kn w V Vm.smP Vm.smT Vm.al4 b4 (w9.alloc (.cells #[.int .u8 0, .string ⟨#[]⟩, .int .i64 0, .slice none 0 0, .int .i64 0, .int .i64 0, .int .i64 0] 59))) := (HK4.out.below hb9).below (Cd.fn1 _ _ _)
  have HB3 := Vm.row_mv HB3.out.1 HB3.out.2 (Gm.Mvg.of_below hb9)
  have HB5 := Vm.row_mv HB5.out.1 HB5.out.2 (Gm.Mvg.of_below hb9)
  have HB9 := Vm.row_mv HB9.out.1 HB9.out.2 (Gm.Mvg.of_below hb9)
  have hw7 : Vm.LOk (Vm.KOff b4) w9 A7 (icells [1]) := HW7.out.mv (Gm.Mvg.of_below hb9)
  obtain ⟨ad, rfl, -, hc⟩ := hw7.li (by simp [icells])
  have d0 : w9.cell? ad = some (.int .i64 1) := by
    have := hc 0 (.int .i64 1) rfl
    rwa [show ad.add 0 = ad from by unfold Addr.add; cases ad; simp] at this
  have a0 := fun o => Ev.cell_alloc o d0
  have a1 := fun o => Ev.cell_alloc o (show w9.cell? ⟨B3, 0, none⟩ = some (.int .u8 2) from cell_of_row _ _ 0 _ _ _ HB3.1)
  have a2 := fun o => Ev.cell_alloc o (show w9.cell? ⟨B3, 1, none⟩ = some (.string ⟨#[1]⟩) from cell_of_row _ _ 1 _ _ _ HB3.1)
  have a3 := fun o => Ev.cell_alloc o (show w9.cell? ⟨B3, 2, none⟩ = some (.int .i64 1) from cell_of_row _ _ 2 _ _ _ HB3.1)
  have a4 := fun o => Ev.cell_alloc o (show w9.cell? ⟨B3, 4, none⟩ = some (.int .i64 9) from cell_of_row _ _ 4 _ _ _ HB3.1)
  have a5 := fun o => Ev.cell_alloc o (show w9.cell? ⟨B5, 0, none⟩ = some (.int .u8 3) from cell_of_row _ _ 0 _ _ _ HB5.1)
  have a6 := fun o => Ev.cell_alloc o (show w9.cell? ⟨B9, 0, none⟩ = some (.int .u8 4) from cell_of_row _ _ 0 _ _ _ HB9.1)
  have a7 := fun o => Ev.cell_alloc o (show w9.cell? ⟨B9, 5, none⟩ = some (.int .i64 5) from cell_of_row _ _ 5 _ _ _ HB9.1)
  have a8 := fun o => Ev.cell_alloc o (show w9.cell? ⟨B9, 6, none⟩ = some (.int .i64 0) from cell_of_row _ _ 6 _ _ _ HB9.1)
  have HG := Lib.hid (HK4.out.give Vm.al4ok 2 ⟨0, 0⟩ 5 Vm.al4h)
  rw [Vm.give_no Vm.al4h (by decide)] at HG
  clear hb9 HB3 HB5 HB9 hw7 hc d0 HR HW7
  go_wp2_with fail
  refine HG.out.mono ?_
  rintro e w10 ⟨rfl, h10⟩
  have HK5 : Hid (Vm.Kn w V Vm.smP Vm.smT Vm.al4 b4 w10) := h10.out.1
  have HKK := Lib.hid (vKids HK5.out.own)
  have HLF := Lib.hid (vLeft HK5.out.own)
  have HTA := Lib.hid (vTask HK5.out.own (by decide) (by decide))
  rw [Vm.al4k] at HKK
  rw [Vm.al4l] at HLF
  clear h10 HG HK4
  go_wp2_with fail
  refine HKK.out.mono ?_
  rintro e w11 ⟨rfl, rfl⟩
  go_wp2_with fail
  refine HLF.out.mono ?_
  rintro e w12 ⟨rfl, rfl⟩
  go_wp2_with fail
  refine HTA.out.mono ?_
  rintro e w13 ⟨A', c', rfl, h13⟩
  have HB := Lib.hid (HK5.out.below h13.out.2.2).bel
  have hf : ((Vm.smT.fuel : Nat) : Int) = 20 := rfl
  have htf := Vm.tfield3
  clear h13 HTA
  go_wp2_with fail
  go_ret
  exact ⟨rfl, HB.out⟩
end Go.Proofs.YtnlhacgihmelhaaGreatDoor
end
