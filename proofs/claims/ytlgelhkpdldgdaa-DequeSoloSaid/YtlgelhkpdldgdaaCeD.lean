/-
  Layer 15: the document's cells: Load, Store, Swap, More.
-/
import Derived.Test.YtlgelhkpdldgdaaCeC
namespace Go.Proofs.Ytlgelhkpdldgdaa
open Go.RowKit

section
variable {R : Nat} {v : Value} {xs : List Int} {n : Nat} {w : World}
set_option maxRecDepth 20000 in
theorem dthere (h : Ce.DM R v xs n w) (at_ : Int) : Calls Try.prog 64 #[.pointer (some ⟨R, 0, none⟩), .int .i64 at_] w fun e w' => e = .returned (.bool (Ce.has xs at_)) ∧ Below w.heap.size w w' := by
  obtain ⟨A, c, rfl⟩ := Gm.own_form h.row
  have c0 := h.c0
  clear h
  by_cases h0 : 0 ≤ at_
  · by_cases h1 : at_ < xs.length
    · have HQ : Hid (Ce.has xs at_ = true) := decide_eq_true ⟨h0, h1⟩
      go_enter Try.func64, Try.ntmps64
      go_wp2_with fail
      go_ret
      rw [HQ.out]
      exact ⟨rfl, Below.refl _ _⟩
    · have HQ : Hid (Ce.has xs at_ = false) := decide_eq_false (fun e => h1 e.2)
      go_enter Try.func64, Try.ntmps64
      go_wp2_with fail
      go_ret
      rw [HQ.out]
      exact ⟨rfl, Below.refl _ _⟩
  · have HQ : Hid (Ce.has xs at_ = false) := decide_eq_false (fun e => h0 e.1)
    go_enter Try.func64, Try.ntmps64
    go_wp2_with fail
    go_ret
    rw [HQ.out]
    exact ⟨rfl, Below.refl _ _⟩
/-- A cell that is there. -/
theorem Ce.has_at {xs : List Int} {at_ : Int} (h : Ce.has xs at_ = true) : ∃ k : Nat, at_ = (k : Int) ∧ k < xs.length := by
  have h := of_decide_eq_true h
  exact ⟨at_.toNat, by omega, by omega⟩
set_option maxRecDepth 20000 in
theorem dload (h : Ce.DM R v xs n w) (hn : n ≤ 1000000000000) (at_ : Int) : Calls Try.prog 62 #[.pointer (some ⟨R, 0, none⟩), .int .i64 at_] w fun e w' =>
    e = .returned (.tuple #[.int .i64 (Ce.ldV xs at_), .int .i64 (Ce.erC xs at_)]) ∧ Ce.DM R v xs (Ce.cnt xs at_ n) w' ∧ Gm.Mvg (Ce.DOff R v) (Ce.DOff R v) w w' := by
  have HT := Lib.hid (dthere h at_)
  have H := Lib.hid h
  have hw : IntKind.i64.wrap ((n : Int) + 1) = (n : Int) + 1 := by rw [IntKind.wrap_i64]; omega
  clear h hn
  go_enter Try.func62, Try.ntmps62
  go_wp2_with fail
  refine HT.out.mono ?_
  rintro e w1 ⟨rfl, hb⟩
  have HB := Lib.hid hb
  have h1 := H.out.below hb
  clear hb HT
  cases hh : Ce.has xs at_ with
  | false =>
    have H1 := Lib.hid h1
    have HH := Lib.hid hh
    clear h1 hh
    go_wp2_with fail
    go_ret2
    unfold Ce.ldV Ce.erC Ce.cnt
    rw [HH.out]
    exact ⟨rfl, H1.out, Gm.Mvg.of_below HB.out⟩
  | true =>
    obtain ⟨k, rfl, hk⟩ := Ce.has_at hh
    have HH := Lib.hid hh
    obtain ⟨g, c, rfl⟩ := Ce.own_ad h1.row (by omega)
    have d1 := h1.c1
    have f1 := h1.fro 1
    have h2 := h1.count
    have d0 := h2.c0
    have cc := Ce.own_cell h2.row hk
    have HG := Lib.hid (Ce.getD_nat hk)
    have z0 : (0 : Int) ≤ (k : Int) := by omega
    have z1 : (k : Int) < (xs.length : Int) := by omega
    have H2 := Lib.hid h2
    have MV : Hid (Gm.Mvg (Ce.DOff R (.slice (some ⟨g, 0, none⟩) xs.length c)) (Ce.DOff R (.slice (some ⟨g, 0, none⟩) xs.length c)) w (w1.setCell ⟨R, 1, none⟩ (.int .i64 ((n : Int) + 1)))) := Ce.mvg_set (Gm.Mvg.of_below HB.out) (fun i _ ho => ho.1) _ _
    generalize xs[k] = y at cc HG
    clear h1 hh h2 hk
    go_wp2_with fail
    go_ret2
    unfold Ce.ldV Ce.erC Ce.cnt
    rw [HH.out, if_pos rfl, if_pos rfl, if_pos rfl, HG.out]
    exact ⟨rfl, H2.out, MV.out⟩
set_option maxRecDepth 20000 in
theorem dstore (h : Ce.DM R v xs n w) (hn : n ≤ 1000000000000) (at_ x : Int) : Calls Try.prog 63 #[.pointer (some ⟨R, 0, none⟩), .int .i64 at_, .int .i64 x] w fun e w' =>
    e = .returned (.int .i64 (Ce.erC xs at_)) ∧ Ce.DM R v (Ce.stX xs at_ x) (Ce.cnt xs at_ n) w' ∧ Gm.Mvg (Ce.DOff R v) (Ce.DOff R v) w w' := by
  have HT := Lib.hid (dthere h at_)
  have H := Lib.hid h
  have hw : IntKind.i64.wrap ((n : Int) + 1) = (n : Int) + 1 := by rw [IntKind.wrap_i64]; omega
  clear h hn
  go_enter Try.func63, Try.ntmps63
  go_wp2_with fail
  refine HT.out.mono ?_
  rintro e w1 ⟨rfl, hb⟩
  have HB := Lib.hid hb
  have h1 := H.out.below hb
  clear hb HT
  cases hh : Ce.has xs at_ with
  | false =>
    have H1 := Lib.hid h1
    have HH := Lib.hid hh
    clear h1 hh
    go_wp2_with fail
    go_ret
    unfold Ce.stX Ce.erC Ce.cnt
    rw [HH.out]
    exact ⟨rfl, H1.out, Gm.Mvg.of_below HB.out⟩
  | true =>
    obtain ⟨k, rfl, hk⟩ := Ce.has_at hh
    have HH := Lib.hid hh
    obtain ⟨g, c, rfl⟩ := Ce.own_ad h1.row (by omega)
    have d1 := h1.c1
    have f1 := h1.fro 1
    have h2 := h1.count
    have d0 := h2.c0
    have cc := Ce.own_cell h2.row hk
    have cf := Ce.own_fro h2.row k
    generalize xs[k] = y at cc
    have z0 : (0 : Int) ≤ (k : Int) := by omega
    have z1 : (k : Int) < (xs.length : Int) := by omega
    have H2 := Lib.hid (h2.set hk x)
    have MV : Hid (Gm.Mvg (Ce.DOff R (.slice (some ⟨g, 0, none⟩) xs.length c)) (Ce.DOff R (.slice (some ⟨g, 0, none⟩) xs.length c)) w ((w1.setCell ⟨R, 1, none⟩ (.int .i64 ((n : Int) + 1))).setCell ⟨g, k, none⟩ (.int .i64 x))) := Ce.mvg_set (Ce.mvg_set (Gm.Mvg.of_below HB.out) (fun i _ ho => ho.1) _ _) (fun i _ ho e => ho.2 (by rw [e]; rfl)) _ _
    clear h1 hh h2 hk
    go_wp2_with fail
    go_ret
    unfold Ce.stX Ce.erC Ce.cnt
    rw [HH.out, if_pos rfl, if_pos rfl, if_pos rfl, Int.toNat_natCast]
    exact ⟨rfl, H2.out, MV.out⟩
set_option maxRecDepth 20000 in
theorem dswap (h : Ce.DM R v xs n w) (hn : n ≤ 1000000000000) (at_ old x : Int) : Calls Try.prog 53 #[.pointer (some ⟨R, 0, none⟩), .int .i64 at_, .int .i64 old, .int .i64 x] w fun e w' =>
    e = .returned (.tuple #[.bool (Ce.swB xs at_ old), .int .i64 (Ce.erC xs at_)]) ∧ Ce.DM R v (Ce.swX xs at_ old x) (Ce.cnt xs at_ n) w' ∧ Gm.Mvg (Ce.DOff R v) (Ce.DOff R v) w w' := by
  have HT := Lib.hid (dthere h at_)
  have H := Lib.hid h
  have hw : IntKind.i64.wrap ((n : Int) + 1) = (n : Int) + 1 := by rw [IntKind.wrap_i64]; omega
  clear h hn
  go_enter Try.func53, Try.ntmps53
  go_wp2_with fail
  refine HT.out.mono ?_
  rintro e w1 ⟨rfl, hb⟩
  have HB := Lib.hid hb
  have h1 := H.out.below hb
  clear hb HT
  cases hh : Ce.has xs at_ with
  | false =>
    have H1 := Lib.hid h1
    have HH := Lib.hid hh
    clear h1 hh
    go_wp2_with fail
    go_ret2
    unfold Ce.swX Ce.swB Ce.erC Ce.cnt
    rw [HH.out]
    exact ⟨rfl, H1.out, Gm.Mvg.of_below HB.out⟩
  | true =>
    obtain ⟨k, rfl, hk⟩ := Ce.has_at hh
    have HH := Lib.hid hh
    obtain ⟨g, c, rfl⟩ := Ce.own_ad h1.row (by omega)
    have d1 := h1.c1
    have f1 := h1.fro 1
    have h2 := h1.count
    have d0 := h2.c0
    have cc := Ce.own_cell h2.row hk
    have cf := Ce.own_fro h2.row k
    have HG := Lib.hid (Ce.getD_nat hk)
    generalize xs[k] = y at cc HG
    have z0 : (0 : Int) ≤ (k : Int) := by omega
    have z1 : (k : Int) < (xs.length : Int) := by omega
    have H2 := Lib.hid (h2.set hk x)
    have H3 := Lib.hid h2
    have MV3 : Hid (Gm.Mvg (Ce.DOff R (.slice (some ⟨g, 0, none⟩) xs.length c)) (Ce.DOff R (.slice (some ⟨g, 0, none⟩) xs.length c)) w (w1.setCell ⟨R, 1, none⟩ (.int .i64 ((n : Int) + 1)))) := Ce.mvg_set (Gm.Mvg.of_below HB.out) (fun i _ ho => ho.1) _ _
    have MV : Hid (Gm.Mvg (Ce.DOff R (.slice (some ⟨g, 0, none⟩) xs.length c)) (Ce.DOff R (.slice (some ⟨g, 0, none⟩) xs.length c)) w ((w1.setCell ⟨R, 1, none⟩ (.int .i64 ((n : Int) + 1))).setCell ⟨g, k, none⟩ (.int .i64 x))) := Ce.mvg_set MV3.out (fun i _ ho e => ho.2 (by rw [e]; rfl)) _ _
    clear h1 hh h2 hk
    by_cases hy : y = old
    · subst hy
      go_wp2_with fail
      go_ret2
      unfold Ce.swX Ce.swB Ce.erC Ce.cnt
      rw [HH.out, HG.out, decide_eq_true rfl, if_pos rfl, if_pos rfl, Bool.and_self, if_pos rfl, Int.toNat_natCast]
      exact ⟨rfl, H2.out, MV.out⟩
    · have HN := Lib.hid hy
      go_wp2_with fail
      go_ret2
      unfold Ce.swX Ce.swB Ce.erC Ce.cnt
      rw [HH.out, HG.out, decide_eq_false HN.out, if_pos rfl, if_pos rfl, Bool.and_false, if_neg (by decide)]
      exact ⟨rfl, H3.out, MV3.out⟩
set_option maxRecDepth 20000 in
theorem dmore (h : Ce.DM R v xs n w) (A : Option Addr) (ys : List Int) (c : Nat) (hl : Lies w w.heap.size A (icells ys)) (_hy : ys.length ≤ maxLen) (hx : xs.length ≤ 65536) :
    Calls Try.prog 28 #[.pointer (some ⟨R, 0, none⟩), .slice A ys.length c] w fun e w' =>
    e = .returned (.tuple #[.int .i64 (Ce.moA xs ys), .int .i64 (Ce.moE xs ys)]) ∧ ∃ v', Ce.DM R v' (Ce.moX xs ys) n w' ∧ Gm.Mvg (Ce.DOff R v) (Ce.DOff R v') w w' := by
  unfold maxLen at _hy
  obtain ⟨A1, c1, e1⟩ := Gm.own_form h.row
  subst e1
  have m0 := h.c0
  have mf0 := h.fro 0
  have H := Lib.hid h
  have hw : IntKind.i64.wrap (65536 - (xs.length : Int)) = 65536 - (xs.length : Int) := by rw [IntKind.wrap_i64]; omega
  by_cases hr : ys.length + xs.length ≤ 65536
  · obtain ⟨v', w2, hrun, hrow, hgr, hbl⟩ := Ce.append_run w _ xs.length _ h.row A ys c hl (by omega) 27
    obtain ⟨A2, c2, hv⟩ := Gm.own_form hrow
    have hR : Ce.moR xs ys = true := decide_eq_true hr
    have HRR := Lib.hid hR
    have HRUN := Lib.hid hrun
    have hrz : ¬ ((65536 : Int) - (xs.length : Int) < (ys.length : Int)) := by omega
    have hgR : w2.heap[R]? = w.heap[R]? := hgr.block R h.ltR (fun e => h.nr e.symm)
    have hvR : v'.ownBlock ≠ some R := by
      rcases hbl with e | e
      · rw [e]; exact h.nr
      · rw [e]; intro e2
        injection e2 with e2
        have := h.ltR
        have e3 : w.heap.size = R := e2
        omega
    have hm2 : w2.heap[R]? = some (.cells #[.slice A1 xs.length c1, .int .i64 (n : Int)] 29 (0, 0)) := hgR.trans h.obj
    have m2 : w2.cell? ⟨R, 0, none⟩ = some (.slice A1 xs.length c1) := cell_of_row _ _ 0 _ _ _ hm2
    have mf2 : w2.frozen? ⟨R, 0, none⟩ = false := frozen_of_row _ _ 0 _ _ hm2
    have hDM : Ce.DM R v' (xs ++ ys) n (w2.setCell ⟨R, 0, none⟩ v') := by
      have hk : ∀ i, i ≠ R → (w2.setCell ⟨R, 0, none⟩ v').heap[i]? = w2.heap[i]? := fun i hi => Below.heap_setCell _ _ _ _ hi
      refine ⟨?_, ?_, hvR⟩
      · rw [heap_setCell_same _ _ _ _ _ _ hm2]
        rfl
      · rw [List.length_append, Ce.icells_cat]
        exact Gm.ownsKeep hrow fun i hi => hk i fun e => hvR (by rw [hi, e])
    have hMV : Gm.Mvg (Ce.DOff R (.slice A1 xs.length c1)) (Ce.DOff R v') w (w2.setCell ⟨R, 0, none⟩ v') := by
      have hm : Gm.Mvg (Ce.DOff R (.slice A1 xs.length c1)) (Ce.DOff R v') w w2 := by
        refine ⟨hgr.os, hgr.tape, hgr.output, hgr.size, fun i hi ho => hgr.block i hi ho.2, fun i hi ho => ⟨ho.1, fun e => ?_⟩⟩
        rcases hbl with e2 | e2
        · exact ho.2 (e.trans e2)
        · rw [e2] at e
          injection e with e
          have e3 : i = w.heap.size := e
          omega
      exact Ce.mvg_set hm (fun i _ ho => ho.1) _ _
    have HDM := Lib.hid hDM
    have HMV := Lib.hid hMV
    subst hv
    clear h hl hr hrun hrow hgr hbl hR hgR hvR hm2 hDM hMV H
    go_enter Try.func28, Try.ntmps28
    go_wp2_with (at_builtin; refine Lib.wpList_append_run _ rfl _ _ 27 27 rfl _ _ rfl rfl _ _ HRUN.out ?_)
    go_ret2
    unfold Ce.moA Ce.moE Ce.moX
    rw [HRR.out, if_pos rfl, if_pos rfl, if_pos rfl]
    exact ⟨rfl, _, HDM.out, HMV.out⟩
  · have HR : Hid (Ce.moR xs ys = false) := decide_eq_false hr
    have hrz : (65536 : Int) - (xs.length : Int) < (ys.length : Int) := by omega
    clear h hl hr
    go_enter Try.func28, Try.ntmps28
    go_wp2_with fail
    go_ret2
    unfold Ce.moA Ce.moE Ce.moX
    rw [HR.out]
    exact ⟨rfl, _, H.out, Gm.Mvg.refl _ _⟩
end
end Go.Proofs.Ytlgelhkpdldgdaa
