/-
  Contracts of the closures that tell a number's fault: Uint's, Int's, Count's, Tag's.
-/
import Derived.Test.YtndgafjnifkghaaWireN
namespace Go.Proofs.Ytndgafjnifkghaa
open Go.RowKit

namespace Wire
theorem wU_yes {m x b : Nat} (h : m < x) : wU m x b = 9 := by unfold wU; rw [if_pos h]
theorem wU_no {m x b : Nat} (h : ¬ m < x) : wU m x b = 0 := by unfold wU; rw [if_neg h]
theorem wI_yes {l h : Int} {x b : Nat} (c : Num.zag x < l ∨ h < Num.zag x) : wI l h x b = 9 := by unfold wI; rw [if_pos c]
theorem wI_no {l h : Int} {x b : Nat} (c : ¬ (Num.zag x < l ∨ h < Num.zag x)) : wI l h x b = 0 := by unfold wI; rw [if_neg c]
theorem wT_yes {xs : List Nat} {x b : Nat} (c : isOf x xs = true) : wT xs x b = 0 := by unfold wT; rw [c]; rfl
theorem wT_no {xs : List Nat} {x b : Nat} (c : isOf x xs = false) : wT xs x b = 8 := by unfold wT; rw [c]; rfl
theorem wC_long {m : Int} {x b : Nat} (c : m < 0 ∨ m < x) : wC m x b = 4 := by unfold wC; rw [if_pos c]
theorem wC_short {m : Int} {x b : Nat} (c : ¬ (m < 0 ∨ m < x)) (h : b < x) : wC m x b = 10 := by unfold wC; rw [if_neg c, if_pos h]
theorem wC_ok {m : Int} {x b : Nat} (c : ¬ (m < 0 ∨ m < x)) (h : ¬ b < x) : wC m x b = 0 := by unfold wC; rw [if_neg c, if_neg h]
end Wire

theorem retE {a : Int} {b : Nat} (h : b = a) : Ending.returned (.int .i64 a) = .returned (.int .i64 (b : Int)) := by rw [h]

set_option maxRecDepth 20000 in
set_option maxHeartbeats 1000000 in
theorem cUint_any (m C : Nat) (x b : Nat) (w : World) (hc : w.cell? ⟨C, 0, none⟩ = some (.int .u64 (m : Int))) :
    Calls Try.prog 53 #[.int .u64 (x : Int), .int .i64 (b : Int), .pointer (some ⟨C, 0, none⟩)] w fun e w' => e = .returned (.int .i64 (Wire.wU m x b : Int)) ∧ w = w' := by
  by_cases h : m < x
  · have hd : decide (m < x) = true := by simpa using h
    have HW := Lib.hid (Wire.wU_yes (b := b) h)
    go_enter Try.func53, Try.ntmps53
    go_wp2_with fail
    refine (when_yes 9 _).mono ?_
    rintro e w' ⟨rfl, rfl⟩
    go_wp2_with fail
    go_ret
    exact ⟨retE (by rw [HW.out]; rfl), rfl⟩
  · have hd : decide (m < x) = false := by simpa using h
    have HW := Lib.hid (Wire.wU_no (b := b) h)
    go_enter Try.func53, Try.ntmps53
    go_wp2_with fail
    refine (when_no 9 _).mono ?_
    rintro e w' ⟨rfl, rfl⟩
    go_wp2_with fail
    go_ret
    exact ⟨retE (by rw [HW.out]; rfl), rfl⟩

set_option maxRecDepth 20000 in
set_option maxHeartbeats 1000000 in
theorem cInt_any (l h : Int) (C D : Nat) (x b : Nat) (w : World) (hc : w.cell? ⟨C, 0, none⟩ = some (.int .i64 l)) (hd : w.cell? ⟨D, 0, none⟩ = some (.int .i64 h)) :
    Calls Try.prog 98 #[.int .i64 (Num.zag x), .int .i64 (b : Int), .pointer (some ⟨C, 0, none⟩), .pointer (some ⟨D, 0, none⟩)] w fun e w' => e = .returned (.int .i64 (Wire.wI l h x b : Int)) ∧ w = w' := by
  have key : ∀ (z : Int) (r : Nat), z = Num.zag x → r = Wire.wI l h x b → Calls Try.prog 98 #[.int .i64 z, .int .i64 (b : Int), .pointer (some ⟨C, 0, none⟩), .pointer (some ⟨D, 0, none⟩)] w fun e w' => e = .returned (.int .i64 (r : Int)) ∧ w = w' := by
    intro z r hz hr
    by_cases h1 : z < l
    · have HW := Lib.hid (hr.trans (Wire.wI_yes (.inl (by omega))))
      clear hz hr
      have d1 : decide (z < l) = true := by simpa using h1
      go_enter Try.func98, Try.ntmps98
      go_wp2_with fail
      refine (when_yes 9 _).mono ?_
      rintro e w' ⟨rfl, rfl⟩
      go_wp2_with fail
      go_ret
      exact ⟨retE (by rw [HW.out]; rfl), rfl⟩
    · have d1 : decide (z < l) = false := by simpa using h1
      by_cases h2 : h < z
      · have HW := Lib.hid (hr.trans (Wire.wI_yes (.inr (by omega))))
        clear hz hr
        have d2 : decide (h < z) = true := by simpa using h2
        go_enter Try.func98, Try.ntmps98
        go_wp2_with fail
        refine (when_yes 9 _).mono ?_
        rintro e w' ⟨rfl, rfl⟩
        go_wp2_with fail
        go_ret
        exact ⟨retE (by rw [HW.out]; rfl), rfl⟩
      · have HW := Lib.hid (hr.trans (Wire.wI_no (by omega)))
        clear hz hr
        have d2 : decide (h < z) = false := by simpa using h2
        go_enter Try.func98, Try.ntmps98
        go_wp2_with fail
        refine (when_no 9 _).mono ?_
        rintro e w' ⟨rfl, rfl⟩
        go_wp2_with fail
        go_ret
        exact ⟨retE (by rw [HW.out]; rfl), rfl⟩
  exact key _ _ rfl rfl

set_option maxRecDepth 20000 in
set_option maxHeartbeats 1000000 in
theorem cCount_any (m : Int) (m0 : -9223372036854775808 ≤ m) (m1 : m ≤ 9223372036854775807) (C : Nat) (x b : Nat) (w : World) (hb : (b : Int) ≤ 9223372036854775807) (hc : w.cell? ⟨C, 0, none⟩ = some (.int .i64 m)) :
    Calls Try.prog 79 #[.int .u64 (x : Int), .int .i64 (b : Int), .pointer (some ⟨C, 0, none⟩)] w fun e w' => e = .returned (.int .i64 (Wire.wC m x b : Int)) ∧ w = w' := by
  by_cases h1 : m < 0
  · have HW := Lib.hid (Wire.wC_long (x := x) (b := b) (.inl h1))
    have d1 : decide (m < 0) = true := by simpa using h1
    go_enter Try.func79, Try.ntmps79
    go_wp2_with fail
    go_ret
    exact ⟨retE (by rw [HW.out]; rfl), rfl⟩
  · obtain ⟨k, rfl⟩ := Int.eq_ofNat_of_zero_le (by omega : 0 ≤ m)
    have d1 : decide ((k : Int) < 0) = false := by simp
    by_cases h2 : k < x
    · have HW := Lib.hid (Wire.wC_long (m := (k : Int)) (x := x) (b := b) (.inr (by omega)))
      have d2 : decide (k < x) = true := by simpa using h2
      go_enter Try.func79, Try.ntmps79
      go_wp2_with fail
      go_ret
      exact ⟨retE (by rw [HW.out]; rfl), rfl⟩
    · have d2 : decide (k < x) = false := by simpa using h2
      by_cases h3 : b < x
      · have HW := Lib.hid (Wire.wC_short (m := (k : Int)) (x := x) (b := b) (by omega) h3)
        have d3 : decide (b < x) = true := by simpa using h3
        go_enter Try.func79, Try.ntmps79
        go_wp2_with fail
        refine (when_yes 10 _).mono ?_
        rintro e w' ⟨rfl, rfl⟩
        go_wp2_with fail
        go_ret
        exact ⟨retE (by rw [HW.out]; rfl), rfl⟩
      · have HW := Lib.hid (Wire.wC_ok (m := (k : Int)) (x := x) (b := b) (by omega) h3)
        have d3 : decide (b < x) = false := by simpa using h3
        go_enter Try.func79, Try.ntmps79
        go_wp2_with fail
        refine (when_no 10 _).mono ?_
        rintro e w' ⟨rfl, rfl⟩
        go_wp2_with fail
        go_ret
        exact ⟨retE (by rw [HW.out]; rfl), rfl⟩

end Go.Proofs.Ytndgafjnifkghaa
