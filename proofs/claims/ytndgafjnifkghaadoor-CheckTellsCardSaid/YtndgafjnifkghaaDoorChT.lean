/-
  The walk of layer 11's CheckTells.
-/
import Derived.Test.YtndgafjnifkghaaDoorChS
import Derived.Test.YtndgafjnifkghaaDoorL10H
namespace Go.Proofs.YtndgafjnifkghaaDoor
open Go.RowKit

set_option maxHeartbeats 2000000 in
set_option maxRecDepth 20000 in
theorem tells11 (w : World) (A : Option Addr) (c : Nat) (l : List Cd.Fm) (hR : ∀ m ∈ l, m.f.Rng) (hn : l.length ≤ maxLen) (hP : Cd.Prog w w.heap.size A l) (hL : Ck.Laid w) (A2 : Option Addr) (n c2 : Nat) (hn2 : n ≤ maxLen) (fn : Int) :
    Calls Tryd.prog 3 #[.agg #[.slice A l.length c], .slice A2 n c2, .int .i64 fn] w fun e w' => e = .returned (.bool true) ∧ Below w.heap.size w w' := by
  obtain ⟨W, hW⟩ : ∃ W, W = w.alloc (.cells #[.slice A l.length c] 24) := ⟨_, rfl⟩
  have hb : Below w.heap.size w W := by rw [hW]; exact Cd.fn1 _ _ _
  have hX : Cd.PBlk W w.heap.size (.slice A l.length c) := by show W.heap[_]? = _; rw [hW]; exact heap_alloc_new w _
  have HB := Lib.hid hb
  have HX := Lib.hid hX
  have p0 := hX.c0
  have HP := Lib.hid ((hP.below hb).mono hb.size)
  have HLW := Lib.hid (hL.later hb)
  have HHV := Lib.hid (heavyp l hR hn A c W HP.out)
  have HAL : Hid (∀ {U : World}, Below W.heap.size W U → Calls Tryd.prog 5 #[] U fun e w' => e = .returned (.bool true) ∧ Below W.heap.size W w') := fun {U} hU => (alive11 U (HLW.out.later hU)).mono (by
    rintro e w' ⟨he, hb⟩
    exact ⟨he, hU.trans (hb.mono hU.size)⟩)
  have HM1 : Hid (∀ U, Below W.heap.size W U → Calls Tryd.prog 6 #[.agg #[.slice A l.length c]] U fun e w' => e = .returned (.tuple #[.int .i64 ((Ck.chk (Cd.fns l)).1 : Int), .int .i64 ((Ck.chk (Cd.fns l)).2.1 : Int), .int .i64 ((Ck.chk (Cd.fns l)).2.2 : Int)]) ∧ Below W.heap.size W w') := fun U hU => (kMay A c l U hR hn ((HP.out.below hU).mono hU.size) (HLW.out.later hU)).mono (by
    rintro e w' ⟨he, hb⟩
    exact ⟨he, hU.trans (hb.mono hU.size)⟩)
  have HM2 : Hid (∀ U, Below W.heap.size W U → Calls Tryd.prog 7 #[.agg #[.slice A l.length c]] U fun e w' => e = .returned (.tuple #[.int .i64 ((Ck.chk (Cd.fns l)).1 : Int), .int .i64 ((Ck.chk (Cd.fns l)).2.1 : Int), .int .i64 ((Ck.chk (Cd.fns l)).2.2 : Int)]) ∧ Below W.heap.size W w') := fun U hU => (rMay11 A c l U hR hn ((HP.out.below hU).mono hU.size)).mono (by
    rintro e w' ⟨he, hb⟩
    exact ⟨he, hU.trans (hb.mono hU.size)⟩)
  have HI1 : Hid (∀ {U : World}, Below W.heap.size W U → Calls Tryd.prog 8 #[.agg #[.slice A l.length c], .slice A2 n c2] U fun e w' => e = .returned (.int .i64 (Ck.inp (Cd.fns l) n : Int)) ∧ Below W.heap.size W w') := fun {U} hU => (kInput A c l U hR hn ((HP.out.below hU).mono hU.size) (HLW.out.later hU) A2 n c2 hn2).mono (by
    rintro e w' ⟨he, hb⟩
    exact ⟨he, hU.trans (hb.mono hU.size)⟩)
  have HI2 : Hid (∀ {U : World}, Below W.heap.size W U → Calls Tryd.prog 9 #[.agg #[.slice A l.length c], .slice A2 n c2] U fun e w' => e = .returned (.int .i64 (Ck.inp (Cd.fns l) n : Int)) ∧ Below W.heap.size W w') := fun {U} hU => (rInput11 A c l U hR hn ((HP.out.below hU).mono hU.size) A2 n c2 hn2).mono (by
    rintro e w' ⟨he, hb⟩
    exact ⟨he, hU.trans (hb.mono hU.size)⟩)
  have HR1 : Hid (∀ {U : World}, Below W.heap.size W U → Calls Tryd.prog 11 #[.agg #[.slice A l.length c], .int .i64 fn] U fun e w' => ∃ (xs : List Int) (A' : Option Addr) (c' : Nat), Hid (Ck.Out (Cd.fns l) fn xs ∧ xs.length ≤ 16) ∧ e = .returned (.slice A' xs.length c') ∧ Hid (Lies w' w'.heap.size A' (icells xs)) ∧ Hid (Below U.heap.size U w') ∧ Below W.heap.size W w') := fun {U} hU => (kReaches A c l U hR hn ((HP.out.below hU).mono hU.size) fn).mono (by
    rintro e w' ⟨xs, A', c', h1, h2, h3, h4, hb⟩
    exact ⟨xs, A', c', ⟨h1, h2⟩, h3, h4, hb, hU.trans (hb.mono hU.size)⟩)
  have HR2 : Hid (∀ {U : World}, Below W.heap.size W U → Calls Tryd.prog 12 #[.agg #[.slice A l.length c], .int .i64 fn] U fun e w' => ∃ (xs : List Int) (A' : Option Addr) (c' : Nat), Hid (Ck.Out (Cd.fns l) fn xs ∧ xs.length ≤ 16) ∧ e = .returned (.slice A' xs.length c') ∧ Hid (Lies w' w'.heap.size A' (icells xs)) ∧ Hid (Below U.heap.size U w') ∧ Below W.heap.size W w') := fun {U} hU => (rReaches A c l U hR hn ((HP.out.below hU).mono hU.size) fn).mono (by
    rintro e w' ⟨xs, A', c', h1, h2, h3, h4, hb⟩
    exact ⟨xs, A', c', ⟨h1, h2⟩, h3, h4, hb, hU.trans (hb.mono hU.size)⟩)
  generalize Ck.chk (Cd.fns l) = ck at HM1 HM2
  obtain ⟨k1, k2, k3⟩ := ck
  dsimp only at HM1 HM2
  generalize Ck.inp (Cd.fns l) n = ki at HI1 HI2
  clear hb hX hP hL hR
  unfold maxLen at hn hn2
  go_enter Tryd.func3, Tryd.ntmps3
  go_upto_region 1 with fail
  rw [← hW]
  clear hW
  generalize w.heap.size = X at HX p0 ⊢
  have hn63 : (n : Int) ≤ 9223372036854775807 := by omega
  go_wp2_with fail
  refine HHV.out.mono ?_
  rintro e w1 ⟨b1, rfl, -, hb1⟩
  have H1 := Lib.hid hb1
  have p0 := (HX.out.of_block (hb1.block _ HX.out.lt)).c0
  clear hb1 HHV
  have HBAD : Hid (∀ w2, Below W.heap.size W w2 → Below w.heap.size w w2) := fun w2 h => HB.out.trans (h.mono HB.out.size)
  cases b1 with
  | true =>
    clear p0
    go_wp2_with fail
    refine (HAL.out H1.out).mono ?_
    rintro e w2 ⟨rfl, hb2⟩
    have H2 := Lib.hid hb2
    clear hb2
    go_wp2_with fail
    go_ret
    exact ⟨rfl, HBAD.out _ H2.out⟩
  | false =>
    by_cases h1024 : (1024 : Int) < (n : Int)
    · have d1 : decide ((1024 : Int) < (n : Int)) = true := by simpa using h1024
      have d2 : decide (1024 < n) = true := by simpa using (by omega : 1024 < n)
      clear p0
      go_wp2_with fail
      refine (HAL.out H1.out).mono ?_
      rintro e w2 ⟨rfl, hb2⟩
      have H2 := Lib.hid hb2
      clear hb2
      go_wp2_with fail
      go_ret
      exact ⟨rfl, HBAD.out _ H2.out⟩
    · have d1 : decide ((1024 : Int) < (n : Int)) = false := by simpa using h1024
      have d2 : decide (1024 < n) = false := by simpa using (by omega : ¬ 1024 < n)
      clear h1024
      go_wp2_with fail
      refine (HM1.out _ H1.out).mono ?_
      rintro e w2 ⟨rfl, hb2⟩
      have H2 := Lib.hid hb2
      clear hb2 p0
      have p0 := (HX.out.of_block (H2.out.block _ HX.out.lt)).c0
      go_wp2_with fail
      refine (HM2.out _ H2.out).mono ?_
      rintro e w3 ⟨rfl, hb3⟩
      have H3 := Lib.hid hb3
      clear hb3 p0 HM1 HM2
      go_upto_region 5 with fail
      have HKEEP : Hid (∀ {U : World}, Below W.heap.size W U → U.cell? ⟨X, 0, none⟩ = some (.slice A l.length c) ∧ Below W.heap.size W U) := fun {U} h => ⟨(HX.out.of_block (h.block _ HX.out.lt)).c0, h⟩
      have bb := H3.out.drew
      have hks := HKEEP.out H3.out
      have e1 : ((k1 : Int) == (k1 : Int)) = true := by simp
      have e2 : ((k2 : Int) == (k2 : Int)) = true := by simp
      have e3 : ((k3 : Int) == (k3 : Int)) = true := by simp
      have e4 : ((ki : Int) == (ki : Int)) = true := by simp
      go_region_held3 (fun wx => wx.cell? ⟨X, 0, none⟩ = some (.slice A l.length c) ∧ Below W.heap.size W wx)
        (first | with_reducible assumption | with_reducible exact HKEEP.out (by with_reducible assumption))
        (first
          | (go_at_call 8; with_reducible refine (HI1.out (by with_reducible assumption)).mono ?_; rintro e y1 ⟨rfl, hy1⟩)
          | (go_at_call 9; with_reducible refine (HI2.out (by with_reducible assumption)).mono ?_; rintro e y2 ⟨rfl, hy2⟩)
          | (go_at_call 11; with_reducible refine (HR1.out (by with_reducible assumption)).mono ?_; rintro e y3 ⟨xs, A3, c3, HO3, rfl, HL3, HB3, hy3⟩)
          | (go_at_call 12; with_reducible refine (HR2.out (by with_reducible assumption)).mono ?_; rintro e y4 ⟨ys, A4, c4, HO4, rfl, HL4, HB4, hy4⟩; obtain rfl := HO4.out.1.eq HO3.out.1)
          | (go_at_call 10; refine (same11 _ HO4.out.2 A3 A4 c3 c4 _ ((HL3.out.below HB4.out).mono HB4.out.size) HL4.out).mono ?_; rintro e y5 ⟨rfl, hy5'⟩; have hy5 := hy4.trans (hy5'.mono hy4.size))
          | (go_at_call 5; with_reducible refine (HAL.out (by with_reducible assumption)).mono ?_; rintro e y6 ⟨rfl, hy6⟩))
      simp only [Exit.then]
      go_at_K
      have H6 := Lib.hid hy6
      clear hy6
      go_wp2_with fail
      go_ret
      exact ⟨rfl, HBAD.out _ H6.out⟩
end Go.Proofs.YtndgafjnifkghaaDoor
