/-
  Layer 13: the document's Calc.
-/
import Derived.Test.YtepnofklmdofmaaGreatDoorLowEvQ
namespace Go.Proofs.YtepnofklmdofmaaGreatDoor
open Go.RowKit

theorem Ev.wrap_eq (x : Int) : IntKind.i64.wrap x = wrap64 x := by rw [IntKind.wrap_i64, wrap64]
set_option maxRecDepth 20000 in
theorem rdivide13 (a b : Int) (hb : b ≠ 0) (w : World) : Calls Tryz.prog 130 #[.int .i64 a, .int .i64 b] w fun e w' => e = .returned (.tuple #[.int .i64 (wrap64 (a.tdiv b)), .int .i64 (a.tmod b)]) ∧ ∃ q, w' = w.drewN q := by
  by_cases h1 : b = -1
  · subst h1
    have HE : Hid (a.tdiv (-1) = -a ∧ a.tmod (-1) = 0) := ⟨by rw [Int.tdiv_neg, Int.tdiv_one], by rw [Int.tmod_neg, Int.tmod_one]⟩
    clear hb
    go_enter Tryz.func130, Tryz.ntmps130
    go_wp2_with fail
    refine bodyPost_ret (results_tmp2 rfl _ _ _) rfl ?_
    exact ⟨by rw [HE.out.1, HE.out.2]; rfl, 0, rfl⟩
  · have e1 : (b == -1) = false := by simpa using h1
    clear h1
    go_enter Tryz.func130, Tryz.ntmps130
    go_wp2_with fail
    go_region
    all_goals
      go_wp2_with fail
      refine bodyPost_ret (results_tmp2 rfl _ _ _) rfl ?_
      exact ⟨rfl, 1, rfl⟩
def Ev.CalcQ (k : Nat) (a b : Int) (w : World) (e : Ending) (w' : World) : Prop := e = .returned (.tuple #[.int .i64 ((Ev.calcV k a b).getD 0), .bool (Ev.calcV k a b).isSome]) ∧ ∃ q, w' = w.drewN q
theorem Ev.calcQ_of {k : Nat} {a b : Int} {x : Option Int} (h : Ev.calcV k a b = x) {w : World} {q : Nat} {e : Ending} (he : e = .returned (.tuple #[.int .i64 (x.getD 0), .bool x.isSome])) : Ev.CalcQ k a b w e (w.drewN q) := by
  subst h
  exact ⟨he, q, rfl⟩
theorem rCalc13 (k : Nat) (h2 : 2 ≤ k) (h9 : k ≤ 9) (a b : Int) (w : World) : Calls Tryz.prog 103 #[.int .u8 (k : Int), .int .i64 a, .int .i64 b] w (Ev.CalcQ k a b w) := by
  obtain rfl | rfl | rfl | rfl | rfl | rfl | rfl | rfl : k = 2 ∨ k = 3 ∨ k = 4 ∨ k = 5 ∨ k = 6 ∨ k = 7 ∨ k = 8 ∨ k = 9 := by omega
  · have HE : Hid (Ev.calcV 2 a b = some a) := rfl
    go_enter Tryz.func103, Tryz.ntmps103
    go_wp2_with fail
    refine bodyPost_ret (results_tmp2 rfl _ _ _) rfl ?_
    exact Ev.calcQ_of (q := 0) HE.out rfl
  · have HE : Hid (Ev.calcV 3 a b = some (wrap64 (a + b))) := by show _ = _; rw [← Ev.wrap_eq]; rfl
    go_enter Tryz.func103, Tryz.ntmps103
    go_wp2_with fail
    refine bodyPost_ret (results_tmp2 rfl _ _ _) rfl ?_
    exact Ev.calcQ_of (q := 0) HE.out rfl
  · have HE : Hid (Ev.calcV 4 a b = some (wrap64 (a - b))) := by show _ = _; rw [← Ev.wrap_eq]; rfl
    go_enter Tryz.func103, Tryz.ntmps103
    go_wp2_with fail
    refine bodyPost_ret (results_tmp2 rfl _ _ _) rfl ?_
    exact Ev.calcQ_of (q := 0) HE.out rfl
  · have HE : Hid (Ev.calcV 5 a b = some (wrap64 (a * b))) := by show _ = _; rw [← Ev.wrap_eq]; rfl
    go_enter Tryz.func103, Tryz.ntmps103
    go_wp2_with fail
    refine bodyPost_ret (results_tmp2 rfl _ _ _) rfl ?_
    exact Ev.calcQ_of (q := 0) HE.out rfl
  · by_cases hb : b = 0
    · subst hb
      have HE : Hid (Ev.calcV 6 a 0 = none) := rfl
      go_enter Tryz.func103, Tryz.ntmps103
      go_wp2_with fail
      refine bodyPost_ret (results_tmp2 rfl _ _ _) rfl ?_
      exact Ev.calcQ_of (q := 0) HE.out rfl
    · have HE : Hid (Ev.calcV 6 a b = some (wrap64 (a.tdiv b))) := by show _ = _; rw [← Ev.wrap_eq]; unfold Ev.calcV; simp [hb]
      have HD := Lib.hid (rdivide13 a b hb w)
      have e0 : (b == 0) = false := by simpa using hb
      clear hb
      go_enter Tryz.func103, Tryz.ntmps103
      go_wp2_with fail
      refine HD.out.mono ?_
      rintro e w1 ⟨rfl, q, rfl⟩
      go_wp2_with fail
      refine bodyPost_ret (results_tmp2 rfl _ _ _) rfl ?_
      exact Ev.calcQ_of HE.out rfl
  · by_cases hb : b = 0
    · subst hb
      have HE : Hid (Ev.calcV 7 a 0 = none) := rfl
      go_enter Tryz.func103, Tryz.ntmps103
      go_wp2_with fail
      refine bodyPost_ret (results_tmp2 rfl _ _ _) rfl ?_
      exact Ev.calcQ_of (q := 0) HE.out rfl
    · have HE : Hid (Ev.calcV 7 a b = some (a.tmod b)) := by show _ = _; unfold Ev.calcV; simp [hb]
      have HD := Lib.hid (rdivide13 a b hb w)
      have e0 : (b == 0) = false := by simpa using hb
      clear hb
      go_enter Tryz.func103, Tryz.ntmps103
      go_wp2_with fail
      refine HD.out.mono ?_
      rintro e w1 ⟨rfl, q, rfl⟩
      go_wp2_with fail
      refine bodyPost_ret (results_tmp2 rfl _ _ _) rfl ?_
      exact Ev.calcQ_of HE.out rfl
  · by_cases h : a < b
    · have HE : Hid (Ev.calcV 8 a b = some 1) := by show _ = _; unfold Ev.calcV; simp [h]
      go_enter Tryz.func103, Tryz.ntmps103
      go_wp2_with fail
      refine bodyPost_ret (results_tmp2 rfl _ _ _) rfl ?_
      exact Ev.calcQ_of (q := 0) HE.out rfl
    · have HE : Hid (Ev.calcV 8 a b = some 0) := by show _ = _; unfold Ev.calcV; simp [h]
      go_enter Tryz.func103, Tryz.ntmps103
      go_wp2_with fail
      refine bodyPost_ret (results_tmp2 rfl _ _ _) rfl ?_
      exact Ev.calcQ_of (q := 0) HE.out rfl
  · by_cases h : a = b
    · have HE : Hid (Ev.calcV 9 a b = some 1) := by show _ = _; unfold Ev.calcV; simp [h]
      have hq : (a == b) = true := by simpa using h
      clear h
      go_enter Tryz.func103, Tryz.ntmps103
      go_wp2_with fail
      refine bodyPost_ret (results_tmp2 rfl _ _ _) rfl ?_
      exact Ev.calcQ_of (q := 0) HE.out rfl
    · have HE : Hid (Ev.calcV 9 a b = some 0) := by show _ = _; unfold Ev.calcV; simp [h]
      have hq : (a == b) = false := by simpa using h
      clear h
      go_enter Tryz.func103, Tryz.ntmps103
      go_wp2_with fail
      refine bodyPost_ret (results_tmp2 rfl _ _ _) rfl ?_
      exact Ev.calcQ_of (q := 0) HE.out rfl
end Go.Proofs.YtepnofklmdofmaaGreatDoor
