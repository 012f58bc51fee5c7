/-
  The document's Has, reg, op (layer 10): what a kind of op has; a register; an op's form.
-/
import Derived.Test.YtndgafjnifkghaaDoorCrA
namespace Go.Proofs.YtndgafjnifkghaaDoor
open Go.RowKit

theorem results_tmp4 {fn : Func} {t u v x : Tmp} (h : fn.results = #[.tmp t, .tmp u, .tmp v, .tmp x]) (tmps : Array Value) (P : Program) (w : World) :
    (results fn tmps).run P w = .ok (.tuple #[tmps.getD t undef, tmps.getD u undef, tmps.getD v undef, tmps.getD x undef]) w := by
  simp [results, h]

set_option maxHeartbeats 1000000 in
set_option maxRecDepth 20000 in
theorem rHas10 (k : Nat) (hk : k < 256) (w : World) : Calls Tryd.prog 28 #[.int .u8 (k : Int)] w fun e w' => e = .returned (.tuple #[.bool (Cd.hD k), .bool (Cd.hA k), .bool (Cd.hB k), .bool (Cd.hN k)]) ∧ w = w' := by
  by_cases h : k < 15
  · have : k = 0 ∨ k = 1 ∨ k = 2 ∨ k = 3 ∨ k = 4 ∨ k = 5 ∨ k = 6 ∨ k = 7 ∨ k = 8 ∨ k = 9 ∨ k = 10 ∨ k = 11 ∨ k = 12 ∨ k = 13 ∨ k = 14 := by omega
    clear h hk
    rcases this with rfl | rfl | rfl | rfl | rfl | rfl | rfl | rfl | rfl | rfl | rfl | rfl | rfl | rfl | rfl
    all_goals
      go_enter Tryd.func28, Tryd.ntmps28
      go_wp2_with fail
      refine bodyPost_ret (results_tmp4 rfl _ _ _) rfl ?_
      exact ⟨rfl, rfl⟩
  · have h1 : decide ((1 : Int) ≤ (k : Int)) = true := by simpa using (by omega : (1 : Int) ≤ (k : Int))
    have h2 : decide ((k : Int) ≤ 9) = false := by simpa using (by omega : ¬ (k : Int) ≤ 9)
    have h3 : decide ((2 : Int) ≤ (k : Int)) = true := by simpa using (by omega : (2 : Int) ≤ (k : Int))
    have h4 : decide ((3 : Int) ≤ (k : Int)) = true := by simpa using (by omega : (3 : Int) ≤ (k : Int))
    have e1 : ((k : Int) == 1) = false := by simpa using (by omega : ¬ (k : Int) = 1)
    have e2 : ((k : Int) == 10) = false := by simpa using (by omega : ¬ (k : Int) = 10)
    have e3 : ((k : Int) == 11) = false := by simpa using (by omega : ¬ (k : Int) = 11)
    have e4 : ((k : Int) == 12) = false := by simpa using (by omega : ¬ (k : Int) = 12)
    have e5 : ((k : Int) == 14) = false := by simpa using (by omega : ¬ (k : Int) = 14)
    have p1 : Cd.hD k = false := by unfold Cd.hD; simp; omega
    have p2 : Cd.hA k = false := by unfold Cd.hA; simp; omega
    have p3 : Cd.hB k = false := by unfold Cd.hB; simp; omega
    have p4 : Cd.hN k = false := by unfold Cd.hN; simp; omega
    rw [p1, p2, p3, p4]
    clear p1 p2 p3 p4 h
    go_enter Tryd.func28, Tryd.ntmps28
    go_wp2_with fail
    refine bodyPost_ret (results_tmp4 rfl _ _ _) rfl ?_
    exact ⟨rfl, rfl⟩

set_option maxHeartbeats 1000000 in
set_option maxRecDepth 20000 in
theorem rReg10 (x : Int) (w : World) : Calls Tryd.prog 26 #[.int .i64 x] w fun e w' => e = .returned (.bool (Cd.reg x)) ∧ w = w' := by
  by_cases h0 : 0 ≤ x
  · have b0 : decide (0 ≤ x) = true := by simpa using h0
    by_cases h1 : x ≤ 16
    · have b1 : decide (x ≤ 16) = true := by simpa using h1
      have e : Cd.reg x = true := Cd.reg_iff.2 ⟨h0, h1⟩
      rw [e]
      clear h0 h1 e
      go_enter Tryd.func26, Tryd.ntmps26
      go_wp2_with fail
      go_ret
      exact ⟨rfl, rfl⟩
    · have b1 : decide (x ≤ 16) = false := by simpa using h1
      have e : Cd.reg x = false := by unfold Cd.reg; rw [b1, Bool.and_false]
      rw [e]
      clear h0 h1 e
      go_enter Tryd.func26, Tryd.ntmps26
      go_wp2_with fail
      go_ret
      exact ⟨rfl, rfl⟩
  · have b0 : decide (0 ≤ x) = false := by simpa using h0
    have e : Cd.reg x = false := by unfold Cd.reg; rw [b0, Bool.false_and]
    rw [e]
    clear h0 e
    go_enter Tryd.func26, Tryd.ntmps26
    go_wp2_with fail
    go_ret
    exact ⟨rfl, rfl⟩
end Go.Proofs.YtndgafjnifkghaaDoor
