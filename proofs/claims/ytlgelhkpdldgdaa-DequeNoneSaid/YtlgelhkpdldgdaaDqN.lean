/-
  Layer 16: what no deque answers; a memory that is full.
-/
import Derived.Test.YtlgelhkpdldgdaaL16A
import Derived.Test.YtlgelhkpdldgdaaCeF
namespace Go.Proofs.Ytlgelhkpdldgdaa
open Go.RowKit
set_option linter.unusedVariables false
set_option linter.unusedSimpArgs false

theorem n_isMem (w : World) : Calls Try.prog 26 #[.pointer none] w fun e w' => e = .returned (.bool false) ∧ w = w' := by
  go_enter Try.func26, Try.ntmps26
  go_wp2_with fail
  refine (cload_nil _ _).mono ?_
  rintro e w' ⟨rfl, rfl⟩
  go_wp2_with fail
  go_ret
  exact ⟨rfl, rfl⟩
theorem n_new (w : World) (log : Int) : Calls Try.prog 9 #[.pointer none, .int .i64 log] w fun e w' => e = .returned (.tuple #[.pointer none, .int .i64 1]) ∧ w = w' := by
  go_enter Try.func9, Try.ntmps9
  go_wp2_with fail
  refine (n_isMem _).mono ?_
  rintro e w' ⟨rfl, rfl⟩
  go_wp2_with fail
  go_ret2
  exact ⟨rfl, rfl⟩
theorem n_isD (w : World) : Calls Try.prog 32 #[.pointer none] w fun e w' => e = .returned (.bool false) ∧ w = w' := by
  go_enter Try.func32, Try.ntmps32
  go_wp2_with fail
  go_ret
  exact ⟨rfl, rfl⟩
theorem n_is (w : World) : Calls Try.prog 34 #[.pointer none] w fun e w' => e = .returned (.bool false) ∧ w = w' := by
  go_enter Try.func34, Try.ntmps34
  go_wp2_with fail
  go_ret
  exact ⟨rfl, rfl⟩
theorem n_free (w : World) : Calls Try.prog 29 #[.pointer none] w fun e w' => e = .returned (.int .i64 1) ∧ w = w' := by
  go_enter Try.func29, Try.ntmps29
  go_wp2_with fail
  refine (n_isD _).mono ?_
  rintro e w' ⟨rfl, rfl⟩
  go_wp2_with fail
  go_ret
  exact ⟨rfl, rfl⟩
theorem n_push (w : World) (v : Int) : Calls Try.prog 12 #[.pointer none, .int .i64 v] w fun e w' => e = .returned (.tuple #[.pointer none, .int .i64 1]) ∧ w = w' := by
  go_enter Try.func12, Try.ntmps12
  go_wp2_with fail
  refine (n_free _).mono ?_
  rintro e w' ⟨rfl, rfl⟩
  go_wp2_with fail
  go_ret2
  exact ⟨rfl, rfl⟩
theorem n_pop (w : World) : Calls Try.prog 13 #[.pointer none] w fun e w' => e = .returned (.tuple #[.pointer none, .int .i64 1]) ∧ w = w' := by
  go_enter Try.func13, Try.ntmps13
  go_wp2_with fail
  refine (n_free _).mono ?_
  rintro e w' ⟨rfl, rfl⟩
  go_wp2_with fail
  go_ret2
  exact ⟨rfl, rfl⟩
theorem n_steal (w : World) : Calls Try.prog 14 #[.pointer none] w fun e w' => e = .returned (.tuple #[.pointer none, .int .i64 1]) ∧ w = w' := by
  go_enter Try.func14, Try.ntmps14
  go_wp2_with fail
  refine (n_isD _).mono ?_
  rintro e w' ⟨rfl, rfl⟩
  go_wp2_with fail
  go_ret2
  exact ⟨rfl, rfl⟩
theorem n_size (w : World) : Calls Try.prog 20 #[.pointer none] w fun e w' => e = .returned (.int .i64 0) ∧ w = w' := by
  go_enter Try.func20, Try.ntmps20
  go_wp2_with fail
  refine (n_isD _).mono ?_
  rintro e w' ⟨rfl, rfl⟩
  go_wp2_with fail
  go_ret
  exact ⟨rfl, rfl⟩
theorem n_step (w : World) : Calls Try.prog 15 #[.pointer none] w fun e w' => e = .returned (.tuple #[.int .u8 0, .int .i64 0, .int .i64 1]) ∧ w = w' := by
  go_enter Try.func15, Try.ntmps15
  go_wp2_with fail
  refine (n_is _).mono ?_
  rintro e w' ⟨rfl, rfl⟩
  go_wp2_with fail
  go_ret3
  exact ⟨rfl, rfl⟩
theorem n_told (w : World) : Calls Try.prog 17 #[.pointer none] w fun e w' => e = .returned (.tuple #[.int .u8 0, .int .i64 0]) ∧ w = w' := by
  go_enter Try.func17, Try.ntmps17
  go_wp2_with fail
  refine (n_is _).mono ?_
  rintro e w' ⟨rfl, rfl⟩
  go_wp2_with fail
  go_ret2
  exact ⟨rfl, rfl⟩

namespace Dq
/-- The first cells, behind k pushes of v. -/
def Z (v : Int) : Nat → List Int
  | 0 => [0, 0, 3, 2, 0, 0]
  | 1 => [0, 1, 3, 2, v, 0]
  | _ => [0, 2, 3, 2, v, v]
def XN (zs : List Int) (v : Int) : Nat → Nat → List Int × A
  | 0, 0 => ([0, 0, 3, 2, 0, 0] ++ zs, ⟨0, 0, 0, 0, 0, 0, 0, 0, 0, 0, 0, 0, v⟩)
  | 0, 1 => ([0, 0, 3, 2, 0, 0] ++ zs, ⟨0, 1, 0, 0, 0, 0, 0, 0, 0, 0, 0, 0, v⟩)
  | 0, 2 => ([0, 0, 3, 2, 0, 0] ++ zs, ⟨0, 2, 0, 0, 0, 0, 0, 0, 0, 0, 0, 0, v⟩)
  | 0, 3 => ([0, 0, 3, 2, 0, 0] ++ zs, ⟨0, 3, 0, 0, 3, 0, 0, 0, 0, 0, 0, 0, v⟩)
  | 0, 4 => ([0, 0, 3, 2, 0, 0] ++ zs, ⟨0, 20, 0, 0, 3, 2, 0, 0, 0, 0, 0, 0, v⟩)
  | 0, 5 => ([0, 0, 3, 2, v, 0] ++ zs, ⟨0, 21, 0, 0, 3, 2, 0, 0, 0, 0, 0, 0, v⟩)
  | 0, _ => ([0, 1, 3, 2, v, 0] ++ zs, ⟨0, 21, 0, 0, 3, 2, 0, 0, 0, 0, 1, 0, v⟩)
  | 1, 0 => ([0, 1, 3, 2, v, 0] ++ zs, ⟨0, 0, 0, 0, 0, 0, 0, 0, 0, 0, 0, 0, v⟩)
  | 1, 1 => ([0, 1, 3, 2, v, 0] ++ zs, ⟨0, 1, 1, 0, 0, 0, 0, 0, 0, 0, 0, 0, v⟩)
  | 1, 2 => ([0, 1, 3, 2, v, 0] ++ zs, ⟨0, 2, 1, 0, 0, 0, 0, 0, 0, 0, 0, 0, v⟩)
  | 1, 3 => ([0, 1, 3, 2, v, 0] ++ zs, ⟨0, 3, 1, 0, 3, 0, 0, 0, 0, 0, 0, 0, v⟩)
  | 1, 4 => ([0, 1, 3, 2, v, 0] ++ zs, ⟨0, 20, 1, 0, 3, 2, 0, 0, 0, 0, 0, 0, v⟩)
  | 1, 5 => ([0, 1, 3, 2, v, v] ++ zs, ⟨0, 21, 1, 0, 3, 2, 0, 0, 0, 0, 0, 0, v⟩)
  | 1, _ => ([0, 2, 3, 2, v, v] ++ zs, ⟨0, 21, 1, 0, 3, 2, 0, 0, 0, 0, 1, 0, v⟩)
  | _, 0 => ([0, 2, 3, 2, v, v] ++ zs, ⟨0, 0, 0, 0, 0, 0, 0, 0, 0, 0, 0, 0, v⟩)
  | _, 1 => ([0, 2, 3, 2, v, v] ++ zs, ⟨0, 1, 2, 0, 0, 0, 0, 0, 0, 0, 0, 0, v⟩)
  | _, 2 => ([0, 2, 3, 2, v, v] ++ zs, ⟨0, 2, 2, 0, 0, 0, 0, 0, 0, 0, 0, 0, v⟩)
  | _, 3 => ([0, 2, 3, 2, v, v] ++ zs, ⟨0, 3, 2, 0, 3, 0, 0, 0, 0, 0, 0, 0, v⟩)
  | _, _ => ([0, 2, 3, 2, v, v] ++ zs, ⟨0, 10, 2, 0, 3, 2, 0, 0, 0, 0, 0, 0, v⟩)
theorem okN {xs : List Int} {a : A} (hx : 100 ≤ xs.length ∧ xs.length ≤ 65536) (hk : a.k = 0) (hb : a.b = 0 ∨ a.b = 1 ∨ a.b = 2) (ht : a.t = 0) (hi : a.i = 0) (h3 : a.pc = 3 → a.w = 3 ∧ ld xs 3 = 2) (h10 : a.pc = 10 → a.n = 2) (h20 : a.pc = 20 → a.w = 3 ∧ a.n = 2) (hp : a.pc ≤ 3 ∨ a.pc = 10 ∨ a.pc = 20 ∨ a.pc = 21) : Ok 0 xs a := by
  refine ⟨by omega, by omega, hx.2, by unfold Sm; omega, by unfold Sm; omega, by unfold Sm; omega, fun _ => ⟨fun e => ?_, fun e => ?_, fun e => ?_, fun e => ?_, fun e => ?_, by omega⟩, fun e => by omega, fun e => by omega⟩
  · have := h3 e
    rw [this.1, this.2]
    exact ⟨by omega, by omega, by unfold Sm; omega⟩
  · have := h10 e
    omega
  · omega
  · omega
  · have := h20 e
    exact ⟨⟨by omega, by omega, by omega⟩, by omega⟩
theorem none_step (zs : List Int) (q : Nat) (hq : q ≤ 3) (hz : zs.length = 65530 - q) (v : Int) (k j : Nat) (hk : k < 3) (hj : j < 6) :
    (XN zs v k j).2.told = 0 ∧ Ok 0 (XN zs v k j).1 (XN zs v k j).2 ∧
    ((k < 2 ∨ j < 4) → (acts 0 (XN zs v k j).1 (XN zs v k j).2).2.2.2 = 0 ∧ (acts 0 (XN zs v k j).1 (XN zs v k j).2).2.2.1 ≤ 1 ∧ XN zs v k (j + 1) = nxt (XN zs v k j)) ∧
    (2 ≤ k ∧ 4 ≤ j → acts 0 (XN zs v k j).1 (XN zs v k j).2 = ((XN zs v k j).2, (XN zs v k j).1, 0, 6) ∧ XN zs v k (j + 1) = XN zs v k j) := by
  have hl : ∀ y0 y1 y2 y3 y4 y5 : Int, 100 ≤ (y0 :: y1 :: y2 :: y3 :: y4 :: y5 :: zs).length ∧ (y0 :: y1 :: y2 :: y3 :: y4 :: y5 :: zs).length ≤ 65536 := fun _ _ _ _ _ _ => by simp; omega
  have hr : ∀ y0 y1 y2 y3 y4 y5 : Int, room (y0 :: y1 :: y2 :: y3 :: y4 :: y5 :: zs) 2 = false := fun _ _ _ _ _ _ => decide_eq_false (by simp; omega)
  have ref : ∀ a : A, a.k = 0 → a.pc = 10 → a.n = 2 → ∀ y0 y1 y2 y3 y4 y5 : Int, acts 0 (y0 :: y1 :: y2 :: y3 :: y4 :: y5 :: zs) a = (a, (y0 :: y1 :: y2 :: y3 :: y4 :: y5 :: zs), 0, 6) := fun a h1 h2 h3 y0 y1 y2 y3 y4 y5 => by
    simp [acts, push, h1, h2, h3, hr]
  match k, hk, j, hj with
  | 0, _, 0, _ => exact ⟨rfl, okN (hl ..) rfl (.inl rfl) rfl rfl (fun h => by cases h) (fun h => by cases h) (fun h => by cases h) (.inl (Nat.le_of_ble_eq_true rfl)), fun _ => ⟨rfl, Nat.le_of_ble_eq_true rfl, rfl⟩, fun h => by omega⟩
  | 0, _, 1, _ => exact ⟨rfl, okN (hl ..) rfl (.inl rfl) rfl rfl (fun h => by cases h) (fun h => by cases h) (fun h => by cases h) (.inl (Nat.le_of_ble_eq_true rfl)), fun _ => ⟨rfl, Nat.le_of_ble_eq_true rfl, rfl⟩, fun h => by omega⟩
  | 0, _, 2, _ => exact ⟨rfl, okN (hl ..) rfl (.inl rfl) rfl rfl (fun h => by cases h) (fun h => by cases h) (fun h => by cases h) (.inl (Nat.le_of_ble_eq_true rfl)), fun _ => ⟨rfl, Nat.le_of_ble_eq_true rfl, rfl⟩, fun h => by omega⟩
  | 0, _, 3, _ => exact ⟨rfl, okN (hl ..) rfl (.inl rfl) rfl rfl (fun _ => ⟨rfl, rfl⟩) (fun h => by cases h) (fun h => by cases h) (.inl (Nat.le_of_ble_eq_true rfl)), fun _ => ⟨rfl, Nat.le_of_ble_eq_true rfl, rfl⟩, fun h => by omega⟩
  | 0, _, 4, _ => exact ⟨rfl, okN (hl ..) rfl (.inl rfl) rfl rfl (fun h => by cases h) (fun h => by cases h) (fun _ => ⟨rfl, rfl⟩) (.inr (.inr (.inl rfl))), fun _ => ⟨rfl, Nat.le_of_ble_eq_true rfl, rfl⟩, fun h => by omega⟩
  | 0, _, 5, _ => exact ⟨rfl, okN (hl ..) rfl (.inl rfl) rfl rfl (fun h => by cases h) (fun h => by cases h) (fun h => by cases h) (.inr (.inr (.inr rfl))), fun _ => ⟨rfl, Nat.le_of_ble_eq_true rfl, rfl⟩, fun h => by omega⟩
  | 1, _, 0, _ => exact ⟨rfl, okN (hl ..) rfl (.inl rfl) rfl rfl (fun h => by cases h) (fun h => by cases h) (fun h => by cases h) (.inl (Nat.le_of_ble_eq_true rfl)), fun _ => ⟨rfl, Nat.le_of_ble_eq_true rfl, rfl⟩, fun h => by omega⟩
  | 1, _, 1, _ => exact ⟨rfl, okN (hl ..) rfl (.inr (.inl rfl)) rfl rfl (fun h => by cases h) (fun h => by cases h) (fun h => by cases h) (.inl (Nat.le_of_ble_eq_true rfl)), fun _ => ⟨rfl, Nat.le_of_ble_eq_true rfl, rfl⟩, fun h => by omega⟩
  | 1, _, 2, _ => exact ⟨rfl, okN (hl ..) rfl (.inr (.inl rfl)) rfl rfl (fun h => by cases h) (fun h => by cases h) (fun h => by cases h) (.inl (Nat.le_of_ble_eq_true rfl)), fun _ => ⟨rfl, Nat.le_of_ble_eq_true rfl, rfl⟩, fun h => by omega⟩
  | 1, _, 3, _ => exact ⟨rfl, okN (hl ..) rfl (.inr (.inl rfl)) rfl rfl (fun _ => ⟨rfl, rfl⟩) (fun h => by cases h) (fun h => by cases h) (.inl (Nat.le_of_ble_eq_true rfl)), fun _ => ⟨rfl, Nat.le_of_ble_eq_true rfl, rfl⟩, fun h => by omega⟩
  | 1, _, 4, _ => exact ⟨rfl, okN (hl ..) rfl (.inr (.inl rfl)) rfl rfl (fun h => by cases h) (fun h => by cases h) (fun _ => ⟨rfl, rfl⟩) (.inr (.inr (.inl rfl))), fun _ => ⟨rfl, Nat.le_of_ble_eq_true rfl, rfl⟩, fun h => by omega⟩
  | 1, _, 5, _ => exact ⟨rfl, okN (hl ..) rfl (.inr (.inl rfl)) rfl rfl (fun h => by cases h) (fun h => by cases h) (fun h => by cases h) (.inr (.inr (.inr rfl))), fun _ => ⟨rfl, Nat.le_of_ble_eq_true rfl, rfl⟩, fun h => by omega⟩
  | 2, _, 0, _ => exact ⟨rfl, okN (hl ..) rfl (.inl rfl) rfl rfl (fun h => by cases h) (fun h => by cases h) (fun h => by cases h) (.inl (Nat.le_of_ble_eq_true rfl)), fun _ => ⟨rfl, Nat.le_of_ble_eq_true rfl, rfl⟩, fun h => by omega⟩
  | 2, _, 1, _ => exact ⟨rfl, okN (hl ..) rfl (.inr (.inr rfl)) rfl rfl (fun h => by cases h) (fun h => by cases h) (fun h => by cases h) (.inl (Nat.le_of_ble_eq_true rfl)), fun _ => ⟨rfl, Nat.le_of_ble_eq_true rfl, rfl⟩, fun h => by omega⟩
  | 2, _, 2, _ => exact ⟨rfl, okN (hl ..) rfl (.inr (.inr rfl)) rfl rfl (fun h => by cases h) (fun h => by cases h) (fun h => by cases h) (.inl (Nat.le_of_ble_eq_true rfl)), fun _ => ⟨rfl, Nat.le_of_ble_eq_true rfl, rfl⟩, fun h => by omega⟩
  | 2, _, 3, _ => exact ⟨rfl, okN (hl ..) rfl (.inr (.inr rfl)) rfl rfl (fun _ => ⟨rfl, rfl⟩) (fun h => by cases h) (fun h => by cases h) (.inl (Nat.le_of_ble_eq_true rfl)), fun _ => ⟨rfl, Nat.le_of_ble_eq_true rfl, rfl⟩, fun h => by omega⟩
  | 2, _, 4, _ => exact ⟨rfl, okN (hl ..) rfl (.inr (.inr rfl)) rfl rfl (fun h => by cases h) (fun _ => rfl) (fun h => by cases h) (.inr (.inl rfl)), fun h => by omega, fun _ => ⟨ref _ rfl rfl rfl .., rfl⟩⟩
  | 2, _, 5, _ => exact ⟨rfl, okN (hl ..) rfl (.inr (.inr rfl)) rfl rfl (fun h => by cases h) (fun _ => rfl) (fun h => by cases h) (.inr (.inl rfl)), fun h => by omega, fun _ => ⟨ref _ rfl rfl rfl .., rfl⟩⟩
theorem none_end (zs : List Int) (v : Int) : ((XN zs v 0 6).1 = Z v 1 ++ zs ∧ (XN zs v 0 6).2.told = 1) ∧ ((XN zs v 1 6).1 = Z v 2 ++ zs ∧ (XN zs v 1 6).2.told = 1) ∧ (XN zs v 2 6).1 = Z v 2 ++ zs := ⟨⟨rfl, rfl⟩, ⟨rfl, rfl⟩, rfl⟩
end Dq
end Go.Proofs.Ytlgelhkpdldgdaa
