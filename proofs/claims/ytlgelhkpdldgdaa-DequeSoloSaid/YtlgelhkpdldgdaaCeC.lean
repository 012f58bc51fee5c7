/-
  Layer 15: the program's cells: Load, Store, Swap, More.
-/
import Derived.Test.YtlgelhkpdldgdaaCeB
import Derived.Deep.DeepCutAuto
import Derived.Deep.CutBlock
namespace Go.Proofs.Ytlgelhkpdldgdaa
open Go.RowKit

namespace Ce
/-- Is there a cell? What it holds, and what is told; what a step leaves. -/
def has (xs : List Int) (a : Int) : Bool := decide (0 ≤ a ∧ a < xs.length)
def ldV (xs : List Int) (a : Int) : Int := if has xs a then xs.getD a.toNat 0 else 0
def erC (xs : List Int) (a : Int) : Int := if has xs a then 0 else 5
def cnt (xs : List Int) (a : Int) (n : Nat) : Nat := if has xs a then n + 1 else n
def stX (xs : List Int) (a x : Int) : List Int := if has xs a then xs.set a.toNat x else xs
def swB (xs : List Int) (a old : Int) : Bool := has xs a && decide (xs.getD a.toNat 0 = old)
def swX (xs : List Int) (a old x : Int) : List Int := if swB xs a old then xs.set a.toNat x else xs
theorem has_not {xs : List Int} {a : Int} (h : ¬ (0 ≤ a ∧ a < xs.length)) : has xs a = false := decide_eq_false h
theorem has_nat {xs : List Int} {k : Nat} (h : k < xs.length) : has xs (k : Int) = true := decide_eq_true ⟨by omega, by omega⟩
theorem getD_nat {xs : List Int} {k : Nat} (h : k < xs.length) : xs.getD ((k : Int).toNat) 0 = xs[k] := by
  rw [Int.toNat_natCast, List.getD_eq_getElem?_getD, List.getElem?_eq_getElem h]
  rfl
section
variable {B M R g c : Nat} {xs : List Int} {n : Nat} {w w' : World}
theorem PM.set (h : PM B M (.slice (some ⟨g, 0, none⟩) xs.length c) xs n w) {k : Nat} (hk : k < xs.length) (x : Int) : PM B M (.slice (some ⟨g, 0, none⟩) xs.length c) (xs.set k x) n (w.setCell ⟨g, k, none⟩ (.int .i64 x)) := by
  have hB : B ≠ g := fun e => h.nb (by rw [e]; rfl)
  have hM : M ≠ g := fun e => h.nm (by rw [e]; rfl)
  exact ⟨(Below.heap_setCell _ _ _ _ hB).trans h.obj, (Below.heap_setCell _ _ _ _ hM).trans h.mem, own_set h.row hk x, h.ne, h.nb, h.nm⟩
theorem DM.set (h : DM R (.slice (some ⟨g, 0, none⟩) xs.length c) xs n w) {k : Nat} (hk : k < xs.length) (x : Int) : DM R (.slice (some ⟨g, 0, none⟩) xs.length c) (xs.set k x) n (w.setCell ⟨g, k, none⟩ (.int .i64 x)) := by
  have hR : R ≠ g := fun e => h.nr (by rw [e]; rfl)
  exact ⟨(Below.heap_setCell _ _ _ _ hR).trans h.obj, own_set h.row hk x, h.nr⟩
end
end Ce

section
variable {B M : Nat} {v : Value} {xs : List Int} {n : Nat} {w : World}
theorem cload (h : Ce.PM B M v xs n w) (hn : n ≤ 1000000000000) (at_ : Int) : Calls Try.prog 22 #[.pointer (some ⟨B, 0, none⟩), .int .i64 at_] w fun e w' =>
    e = .returned (.tuple #[.int .i64 (Ce.ldV xs at_), .int .i64 (Ce.erC xs at_)]) ∧ Ce.PM B M v xs (Ce.cnt xs at_ n) w' ∧ Gm.Mvg (Ce.POff B M v) (Ce.POff B M v) w w' := by
  have HS := Lib.hid (cstep h hn at_)
  have H := Lib.hid h
  clear h hn
  go_enter Try.func22, Try.ntmps22
  go_wp2_with fail
  refine HS.out.mono ?_
  rintro e w2 (⟨hq, rfl, hb2⟩ | ⟨k, g, c, rfl, hk, rfl, rfl, h2, mv⟩)
  · have HQ : Hid (Ce.has xs at_ = false) := Ce.has_not hq
    have HB := Lib.hid hb2
    clear hq hb2 HS
    go_wp2_with fail
    go_ret2
    unfold Ce.ldV Ce.erC Ce.cnt
    rw [HQ.out]
    exact ⟨rfl, H.out.below HB.out, Gm.Mvg.of_below HB.out⟩
  · have HQ : Hid (Ce.has xs (k : Int) = true ∧ xs.getD ((k : Int).toNat) 0 = xs[k]) := ⟨Ce.has_nat hk, Ce.getD_nat hk⟩
    have cc := Ce.own_cell h2.row hk
    have H2 := Lib.hid h2
    have MV := Lib.hid mv
    generalize xs[k] = y at cc HQ
    clear hk h2 mv HS
    go_wp2_with fail
    go_ret2
    unfold Ce.ldV Ce.erC Ce.cnt
    rw [HQ.out.1, if_pos rfl, if_pos rfl, if_pos rfl, HQ.out.2]
    exact ⟨rfl, H2.out, MV.out⟩
theorem cstore (h : Ce.PM B M v xs n w) (hn : n ≤ 1000000000000) (at_ x : Int) : Calls Try.prog 83 #[.pointer (some ⟨B, 0, none⟩), .int .i64 at_, .int .i64 x] w fun e w' =>
    e = .returned (.int .i64 (Ce.erC xs at_)) ∧ Ce.PM B M v (Ce.stX xs at_ x) (Ce.cnt xs at_ n) w' ∧ Gm.Mvg (Ce.POff B M v) (Ce.POff B M v) w w' := by
  have HS := Lib.hid (cstep h hn at_)
  have H := Lib.hid h
  clear h hn
  go_enter Try.func83, Try.ntmps83
  go_wp2_with fail
  refine HS.out.mono ?_
  rintro e w2 (⟨hq, rfl, hb2⟩ | ⟨k, g, c, rfl, hk, rfl, rfl, h2, mv⟩)
  · have HQ : Hid (Ce.has xs at_ = false) := Ce.has_not hq
    have HB := Lib.hid hb2
    clear hq hb2 HS
    go_wp2_with fail
    go_ret
    unfold Ce.stX Ce.erC Ce.cnt
    rw [HQ.out]
    exact ⟨rfl, H.out.below HB.out, Gm.Mvg.of_below HB.out⟩
  · have HQ : Hid (Ce.has xs (k : Int) = true) := Ce.has_nat hk
    have cc := Ce.own_cell h2.row hk
    have cf := Ce.own_fro h2.row k
    generalize xs[k] = y at cc
    have H2 := Lib.hid (h2.set hk x)
    have MV : Hid (Gm.Mvg (Ce.POff B M (.slice (some ⟨g, 0, none⟩) xs.length c)) (Ce.POff B M (.slice (some ⟨g, 0, none⟩) xs.length c)) w (w2.setCell ⟨g, k, none⟩ (.int .i64 x))) := Ce.mvg_set mv (fun i _ ho e => ho.2.2 (by rw [e]; rfl)) _ _
    clear hk h2 mv HS
    go_wp2_with fail
    go_ret
    unfold Ce.stX Ce.erC Ce.cnt
    rw [HQ.out, if_pos rfl, if_pos rfl, if_pos rfl, Int.toNat_natCast]
    exact ⟨rfl, H2.out, MV.out⟩
theorem cswap (h : Ce.PM B M v xs n w) (hn : n ≤ 1000000000000) (at_ old x : Int) : Calls Try.prog 94 #[.pointer (some ⟨B, 0, none⟩), .int .i64 at_, .int .i64 old, .int .i64 x] w fun e w' =>
    e = .returned (.tuple #[.bool (Ce.swB xs at_ old), .int .i64 (Ce.erC xs at_)]) ∧ Ce.PM B M v (Ce.swX xs at_ old x) (Ce.cnt xs at_ n) w' ∧ Gm.Mvg (Ce.POff B M v) (Ce.POff B M v) w w' := by
  have HS := Lib.hid (cstep h hn at_)
  have H := Lib.hid h
  clear h hn
  go_enter Try.func94, Try.ntmps94
  go_wp2_with fail
  refine HS.out.mono ?_
  rintro e w2 (⟨hq, rfl, hb2⟩ | ⟨k, g, c, rfl, hk, rfl, rfl, h2, mv⟩)
  · have HQ : Hid (Ce.has xs at_ = false) := Ce.has_not hq
    have HB := Lib.hid hb2
    clear hq hb2 HS
    go_wp2_with fail
    go_ret2
    unfold Ce.swX Ce.swB Ce.erC Ce.cnt
    rw [HQ.out]
    exact ⟨rfl, H.out.below HB.out, Gm.Mvg.of_below HB.out⟩
  · have HQ : Hid (Ce.has xs (k : Int) = true ∧ xs.getD ((k : Int).toNat) 0 = xs[k]) := ⟨Ce.has_nat hk, Ce.getD_nat hk⟩
    have cc := Ce.own_cell h2.row hk
    have cf := Ce.own_fro h2.row k
    have H2 := Lib.hid (h2.set hk x)
    have H3 := Lib.hid h2
    have MV3 := Lib.hid mv
    have MV : Hid (Gm.Mvg (Ce.POff B M (.slice (some ⟨g, 0, none⟩) xs.length c)) (Ce.POff B M (.slice (some ⟨g, 0, none⟩) xs.length c)) w (w2.setCell ⟨g, k, none⟩ (.int .i64 x))) := Ce.mvg_set mv (fun i _ ho e => ho.2.2 (by rw [e]; rfl)) _ _
    generalize xs[k] = y at cc HQ
    clear hk h2 mv HS
    by_cases hy : y = old
    · subst hy
      go_wp2_with fail
      go_ret2
      unfold Ce.swX Ce.swB Ce.erC Ce.cnt
      rw [HQ.out.1, HQ.out.2, decide_eq_true rfl, if_pos rfl, if_pos rfl, Bool.and_self, if_pos rfl, Int.toNat_natCast]
      exact ⟨rfl, H2.out, MV.out⟩
    · have HN := Lib.hid hy
      go_wp2_with fail
      go_ret2
      unfold Ce.swX Ce.swB Ce.erC Ce.cnt
      rw [HQ.out.1, HQ.out.2, decide_eq_false HN.out, if_pos rfl, if_pos rfl, Bool.and_false, if_neg (by decide)]
      exact ⟨rfl, H3.out, MV3.out⟩
/-- More: whether there is room; and the numbers. -/
def Ce.moR (xs ys : List Int) : Bool := decide (ys.length + xs.length ≤ 65536)
def Ce.moE (xs ys : List Int) : Int := if Ce.moR xs ys then 0 else 6
def Ce.moA (xs ys : List Int) : Int := if Ce.moR xs ys then xs.length else 0
def Ce.moX (xs ys : List Int) : List Int := if Ce.moR xs ys then xs ++ ys else xs
set_option maxRecDepth 20000 in
theorem cmore (h : Ce.PM B M v xs n w) (A : Option Addr) (ys : List Int) (c : Nat) (hl : Lies w w.heap.size A (icells ys)) (_hy : ys.length ≤ maxLen) (hx : xs.length ≤ 65536) :
    Calls Try.prog 24 #[.pointer (some ⟨B, 0, none⟩), .slice A ys.length c] w fun e w' =>
    e = .returned (.tuple #[.int .i64 (Ce.moA xs ys), .int .i64 (Ce.moE xs ys)]) ∧ ∃ v', Ce.PM B M v' (Ce.moX xs ys) n w' ∧ Gm.Mvg (Ce.POff B M v) (Ce.POff B M v') w w' := by
  unfold maxLen at _hy
  have HI := Lib.hid (cis h)
  have H := Lib.hid h
  have HL := Lib.hid hl
  have hw : IntKind.i64.wrap (65536 - (xs.length : Int)) = 65536 - (xs.length : Int) := by rw [IntKind.wrap_i64]; omega
  clear h hl
  go_enter Try.func24, Try.ntmps24
  go_wp2_with fail
  refine HI.out.mono ?_
  rintro e w1 ⟨rfl, hb⟩
  have h1 := H.out.below hb
  obtain ⟨A1, c1, e1⟩ := Gm.own_form h1.row
  subst e1
  have c0 := h1.c0
  have m1 := h1.m1
  have mf1 := h1.fro 1
  have H1 := Lib.hid h1
  have HB := Lib.hid hb
  by_cases hr : ys.length + xs.length ≤ 65536
  · obtain ⟨v', w2, hrun, hrow, hgr, hbl⟩ := Ce.append_run w1.drew _ xs.length _ h1.drew.row A ys c (((HL.out.below hb).mono hb.size).below (Below.refl _ _).drew) (by omega) 27
    obtain ⟨A2, c2, hv⟩ := Gm.own_form hrow
    have hR : Ce.moR xs ys = true := decide_eq_true hr
    have HRR := Lib.hid hR
    have HRUN := Lib.hid hrun
    have HROW := Lib.hid hrow
    have HGR := Lib.hid hgr
    have HBL := Lib.hid hbl
    have hrz : ¬ ((65536 : Int) - (xs.length : Int) < (ys.length : Int)) := by omega
    have hgM : w2.heap[M]? = w1.heap[M]? := hgr.block M h1.ltM (fun e => h1.nm e.symm)
    have hgB : w2.heap[B]? = w1.heap[B]? := hgr.block B h1.ltB (fun e => h1.nb e.symm)
    have hvM : v'.ownBlock ≠ some M := by
      rcases hbl with e | e
      · rw [e]; exact h1.nm
      · rw [e]; intro e2
        injection e2 with e2
        have := h1.ltM
        have e3 : w1.heap.size = M := e2
        omega
    have hvB : v'.ownBlock ≠ some B := by
      rcases hbl with e | e
      · rw [e]; exact h1.nb
      · rw [e]; intro e2
        injection e2 with e2
        have := h1.ltB
        have e3 : w1.heap.size = B := e2
        omega
    have hm2 : w2.heap[M]? = some (.cells #[.int .i64 (n : Int), .slice A1 xs.length c1] 73 (0, 0)) := hgM.trans h1.mem
    have m2 := cell_of_row _ _ 1 _ _ _ hm2
    have b2 : w2.cell? ⟨B, 0, none⟩ = some (.pointer (some ⟨M, 0, none⟩)) := cell_of_row _ _ 0 _ _ _ (hgB.trans h1.obj)
    have mf2 : w2.frozen? ⟨M, 1, none⟩ = false := frozen_of_row _ _ 1 _ _ hm2
    have hPM : Ce.PM B M v' (xs ++ ys) n (w2.setCell ⟨M, 1, none⟩ v') := by
      have hk : ∀ i, i ≠ M → (w2.setCell ⟨M, 1, none⟩ v').heap[i]? = w2.heap[i]? := fun i hi => Below.heap_setCell _ _ _ _ hi
      refine ⟨(hk B h1.ne).trans (hgB.trans h1.obj), ?_, ?_, h1.ne, hvB, hvM⟩
      · rw [heap_setCell_same _ _ _ _ _ _ hm2]
        rfl
      · rw [List.length_append, Ce.icells_cat]
        exact Gm.ownsKeep hrow fun i hi => hk i fun e => hvM (by rw [hi, e])
    have hMV : Gm.Mvg (Ce.POff B M (.slice A1 xs.length c1)) (Ce.POff B M v') w (w2.setCell ⟨M, 1, none⟩ v') := by
      have hm : Gm.Mvg (Ce.POff B M (.slice A1 xs.length c1)) (Ce.POff B M v') w1 w2 := by
        refine ⟨hgr.os, hgr.tape, hgr.output, hgr.size, fun i hi ho => hgr.block i hi ho.2.2, fun i hi ho => ⟨ho.1, ho.2.1, fun e => ?_⟩⟩
        rcases hbl with e2 | e2
        · exact ho.2.2 (e.trans e2)
        · rw [e2] at e
          injection e with e
          have e3 : i = w1.heap.size := e
          omega
      exact (Gm.Mvg.of_below hb).trans (Ce.mvg_set hm (fun i _ ho => ho.2.1) _ _)
    have HPM := Lib.hid hPM
    have HMV := Lib.hid hMV
    subst hv
    clear h1 hb HI hr hrun hrow hgr hbl hR hgM hgB hvM hvB hm2 hPM hMV HROW HGR HBL HL H1 H
    go_upto_region 6 with fail
    go_region_law (refine Ce.step_append_run (by rfl) _ _ (by rfl) (by rfl) (by rfl) HRUN.out ?_)
    all_goals
      go_wp2_with fail
      go_ret2
      unfold Ce.moA Ce.moE Ce.moX
      rw [HRR.out, if_pos rfl, if_pos rfl, if_pos rfl]
      exact ⟨rfl, _, HPM.out, HMV.out⟩
  · have HR : Hid (Ce.moR xs ys = false) := decide_eq_false hr
    have hrz : (65536 : Int) - (xs.length : Int) < (ys.length : Int) := by omega
    clear h1 hb HI hr
    go_wp2_with fail
    go_ret2
    unfold Ce.moA Ce.moE Ce.moX
    rw [HR.out]
    exact ⟨rfl, _, H1.out, Gm.Mvg.of_below HB.out⟩
end
end Go.Proofs.Ytlgelhkpdldgdaa
