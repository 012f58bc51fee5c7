/-
  Layer 16: the program's acts: the steps that read.
-/
import Derived.Test.YtlgelhkpdldgdaaDqC
namespace Go.Proofs.Ytlgelhkpdldgdaa
open Go.RowKit
set_option linter.unusedVariables false
set_option linter.unusedSimpArgs false

namespace Dq
/-- The cells of a push, a pop, a steal. -/
def pC (R : Nat) (a : A) (nx : Value) : Array Value := #[.int .i64 a.w, .int .i64 a.n, .pointer (some ⟨R, 0, none⟩), .int .i64 a.t, .int .i64 a.b, .int .i64 a.rd, nx, .int .u8 a.told, .int .i64 a.got, .int .i64 a.V, .int .i64 a.nw, .int .i64 a.nc, .int .i64 a.i]
def oC (R : Nat) (a : A) (nx : Value) : Array Value := #[.int .i64 a.w, .int .i64 a.n, .pointer (some ⟨R, 0, none⟩), .int .i64 a.t, .int .i64 a.b, .int .i64 a.rd, nx, .int .u8 a.told, .int .i64 a.got, .bool (decide (a.i = 1))]
def tC (R : Nat) (a : A) (nx : Value) : Array Value := #[.int .i64 a.w, .int .i64 a.n, .pointer (some ⟨R, 0, none⟩), .int .i64 a.t, .int .i64 a.b, .int .i64 a.rd, nx, .int .u8 a.told, .int .i64 a.got]
/-- A method of an act, bound to it. -/
def fv (f P : Nat) : Value := .func (.func f) #[.pointer (some ⟨P, 0, none⟩)] #[]
theorem fvOk (f P : Nat) : Fnv (fv f P) := .inr ⟨_, _, _, rfl⟩
end Dq
section
variable {K : Nat → Prop} {B M R : Nat} {F : Int} {own : Value} {P : Nat} {T : TypeId} {cs : Array Value} {xs : List Int} {n : Nat} {w : World}
theorem q_readBottomR (h : Dq.Atc K B M R F own P T cs xs n w) (hb : Dq.Bd F xs n) (nx : Value) (hn : Dq.Fnv nx) : Calls Try.prog 43 #[.pointer (some ⟨P, 0, none⟩), nx] w (Dq.Rdd K B M R F own P T ((cs.setIfInBounds 4 (.int .i64 (Dq.ld xs (F + 1)))).setIfInBounds 6 nx) xs (n + 1) w) := (q_readBottom h hb nx hn).mono fun _ _ h => ⟨h.1, h.2⟩
end
section
variable {K : Nat → Prop} {B M R : Nat} {F : Int} {own : Value} {P : Nat} {xs : List Int} {n : Nat} {w : World} {a : Dq.A} {nx : Value}
theorem s_push0 (h : Dq.Atc K B M R F own P 96 (Dq.pC R a nx) xs n w) (hb : Dq.Bd F xs n) : Calls Try.prog 30 #[.pointer (some ⟨P, 0, none⟩)] w (Dq.Rdd K B M R F own P 96 (Dq.pC R {a with b := Dq.ld xs (F + 1)} (Dq.fv 44 P)) xs (n + 1) w) := by
  have HR := Lib.hid (q_readBottomR h hb (Dq.fv 44 P) (Dq.fvOk _ _))
  clear h hb
  unfold Dq.Rdd Dq.fv at HR
  unfold Dq.Rdd
  go_enter Try.func30, Try.ntmps30
  go_wp2_with fail
  refine HR.out.mono ?_
  rintro e w' ⟨rfl, hh⟩
  go_wp2_with fail
  go_ret
  exact ⟨rfl, hh⟩
theorem s_push1 (h : Dq.Atc K B M R F own P 96 (Dq.pC R a nx) xs n w) (hb : Dq.Bd F xs n) : Calls Try.prog 44 #[.pointer (some ⟨P, 0, none⟩)] w (Dq.Rdd K B M R F own P 96 (Dq.pC R {a with t := Dq.ld xs F} (Dq.fv 57 P)) xs (n + 1) w) := by
  have HR := Lib.hid (q_readTop h hb (Dq.fv 57 P) (Dq.fvOk _ _))
  clear h hb
  unfold Dq.Rdd Dq.fv at HR
  unfold Dq.Rdd
  go_enter Try.func44, Try.ntmps44
  go_wp2_with fail
  refine HR.out.mono ?_
  rintro e w' ⟨rfl, hh⟩
  go_wp2_with fail
  go_ret
  exact ⟨rfl, hh⟩
theorem s_push2 (h : Dq.Atc K B M R F own P 96 (Dq.pC R a nx) xs n w) (hb : Dq.Bd F xs n) : Calls Try.prog 57 #[.pointer (some ⟨P, 0, none⟩)] w (Dq.Rdd K B M R F own P 96 (Dq.pC R {a with w := Dq.ld xs (F + 2)} (Dq.fv 67 P)) xs (n + 1) w) := by
  have HR := Lib.hid (q_readWhere h hb (Dq.fv 67 P) (Dq.fvOk _ _))
  clear h hb
  unfold Dq.Rdd Dq.fv at HR
  unfold Dq.Rdd
  go_enter Try.func57, Try.ntmps57
  go_wp2_with fail
  refine HR.out.mono ?_
  rintro e w' ⟨rfl, hh⟩
  go_wp2_with fail
  go_ret
  exact ⟨rfl, hh⟩
theorem s_pop0 (h : Dq.Atc K B M R F own P 101 (Dq.oC R a nx) xs n w) (hb : Dq.Bd F xs n) : Calls Try.prog 31 #[.pointer (some ⟨P, 0, none⟩)] w (Dq.Rdd K B M R F own P 101 (Dq.oC R {a with b := Dq.ld xs (F + 1)} (Dq.fv 45 P)) xs (n + 1) w) := by
  have HR := Lib.hid (q_readBottomR h hb (Dq.fv 45 P) (Dq.fvOk _ _))
  clear h hb
  unfold Dq.Rdd Dq.fv at HR
  unfold Dq.Rdd
  go_enter Try.func31, Try.ntmps31
  go_wp2_with fail
  refine HR.out.mono ?_
  rintro e w' ⟨rfl, hh⟩
  go_wp2_with fail
  go_ret
  exact ⟨rfl, hh⟩
theorem s_pop1 (h : Dq.Atc K B M R F own P 101 (Dq.oC R a nx) xs n w) (hb : Dq.Bd F xs n) : Calls Try.prog 45 #[.pointer (some ⟨P, 0, none⟩)] w (Dq.Rdd K B M R F own P 101 (Dq.oC R {a with w := Dq.ld xs (F + 2)} (Dq.fv 59 P)) xs (n + 1) w) := by
  have HR := Lib.hid (q_readWhere h hb (Dq.fv 59 P) (Dq.fvOk _ _))
  clear h hb
  unfold Dq.Rdd Dq.fv at HR
  unfold Dq.Rdd
  go_enter Try.func45, Try.ntmps45
  go_wp2_with fail
  refine HR.out.mono ?_
  rintro e w' ⟨rfl, hh⟩
  go_wp2_with fail
  go_ret
  exact ⟨rfl, hh⟩
theorem s_pop5 (h : Dq.Atc K B M R F own P 101 (Dq.oC R a nx) xs n w) (hb : Dq.Bd F xs n) (h0 : 0 ≤ a.w ∧ a.w < xs.length) : Calls Try.prog 77 #[.pointer (some ⟨P, 0, none⟩)] w (Dq.Rdd K B M R F own P 101 (Dq.oC R {a with n := Dq.ld xs a.w} (Dq.fv 84 P)) xs (n + 1) w) := by
  have HR := Lib.hid (q_readCount h hb (Dq.fv 84 P) (Dq.fvOk _ _) rfl h0)
  clear h hb
  unfold Dq.Rdd Dq.fv at HR
  unfold Dq.Rdd
  go_enter Try.func77, Try.ntmps77
  go_wp2_with fail
  refine HR.out.mono ?_
  rintro e w' ⟨rfl, hh⟩
  go_wp2_with fail
  go_ret
  exact ⟨rfl, hh⟩
theorem s_steal0 (h : Dq.Atc K B M R F own P 104 (Dq.tC R a nx) xs n w) (hb : Dq.Bd F xs n) : Calls Try.prog 33 #[.pointer (some ⟨P, 0, none⟩)] w (Dq.Rdd K B M R F own P 104 (Dq.tC R {a with t := Dq.ld xs F} (Dq.fv 47 P)) xs (n + 1) w) := by
  have HR := Lib.hid (q_readTop h hb (Dq.fv 47 P) (Dq.fvOk _ _))
  clear h hb
  unfold Dq.Rdd Dq.fv at HR
  unfold Dq.Rdd
  go_enter Try.func33, Try.ntmps33
  go_wp2_with fail
  refine HR.out.mono ?_
  rintro e w' ⟨rfl, hh⟩
  go_wp2_with fail
  go_ret
  exact ⟨rfl, hh⟩
theorem s_steal2 (h : Dq.Atc K B M R F own P 104 (Dq.tC R a nx) xs n w) (hb : Dq.Bd F xs n) : Calls Try.prog 60 #[.pointer (some ⟨P, 0, none⟩)] w (Dq.Rdd K B M R F own P 104 (Dq.tC R {a with w := Dq.ld xs (F + 2)} (Dq.fv 71 P)) xs (n + 1) w) := by
  have HR := Lib.hid (q_readWhere h hb (Dq.fv 71 P) (Dq.fvOk _ _))
  clear h hb
  unfold Dq.Rdd Dq.fv at HR
  unfold Dq.Rdd
  go_enter Try.func60, Try.ntmps60
  go_wp2_with fail
  refine HR.out.mono ?_
  rintro e w' ⟨rfl, hh⟩
  go_wp2_with fail
  go_ret
  exact ⟨rfl, hh⟩
theorem s_steal3 (h : Dq.Atc K B M R F own P 104 (Dq.tC R a nx) xs n w) (hb : Dq.Bd F xs n) (h0 : 0 ≤ a.w ∧ a.w < xs.length) : Calls Try.prog 71 #[.pointer (some ⟨P, 0, none⟩)] w (Dq.Rdd K B M R F own P 104 (Dq.tC R {a with n := Dq.ld xs a.w} (Dq.fv 79 P)) xs (n + 1) w) := by
  have HR := Lib.hid (q_readCount h hb (Dq.fv 79 P) (Dq.fvOk _ _) rfl h0)
  clear h hb
  unfold Dq.Rdd Dq.fv at HR
  unfold Dq.Rdd
  go_enter Try.func71, Try.ntmps71
  go_wp2_with fail
  refine HR.out.mono ?_
  rintro e w' ⟨rfl, hh⟩
  go_wp2_with fail
  go_ret
  exact ⟨rfl, hh⟩
end
end Go.Proofs.Ytlgelhkpdldgdaa
