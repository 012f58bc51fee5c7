/-
  Layer 16: the program's acts: a step, whichever it is.
-/
import Derived.Test.YtlgelhkpdldgdaaDqH
import Derived.Test.YtlgelhkpdldgdaaDqT
namespace Go.Proofs.Ytlgelhkpdldgdaa
open Go.RowKit
set_option linter.unusedVariables false
set_option linter.unusedSimpArgs false

namespace Dq
def noPush : Nat → Nat
  | 0 => 30
  | 1 => 44
  | 2 => 57
  | 3 => 67
  | 10 => 75
  | 11 => 89
  | 12 => 92
  | 13 => 88
  | 20 => 74
  | _ => 81
def noPop : Nat → Nat
  | 0 => 31
  | 1 => 45
  | 2 => 59
  | 3 => 70
  | 4 => 78
  | 5 => 77
  | 6 => 84
  | 7 => 90
  | _ => 78
def noSteal : Nat → Nat
  | 0 => 33
  | 1 => 47
  | 2 => 60
  | 3 => 71
  | 4 => 79
  | _ => 87
def nof (a : A) : Nat := if a.k = 0 then noPush a.pc else if a.k = 1 then noPop a.pc else noSteal a.pc
def nxV (P : Nat) (a : A) : Value := if a.told = 0 then fv (nof a) P else .nilFunc
def cso (R : Nat) (a : A) (nx : Value) : Array Value := if a.k = 0 then pC R a nx else if a.k = 1 then oC R a nx else tC R a nx
def tyo (a : A) : TypeId := if a.k = 0 then 96 else if a.k = 1 then 101 else 104
/-- An act of the program's at P. -/
def Ap (K : Nat → Prop) (B M R : Nat) (F : Int) (own : Value) (P : Nat) (a : A) (xs : List Int) (n : Nat) (w : World) : Prop := Atc K B M R F own P (tyo a) (cso R a (nxV P a)) xs n w
section
variable {K : Nat → Prop} {B M R : Nat} {F : Int} {own : Value} {P : Nat} {xs : List Int} {n : Nat} {w : World} {a : A} {nx : Value}
theorem apPush (hk : a.k = 0) (hn : nxV P a = nx) : Ap K B M R F own P a xs n w ↔ Atc K B M R F own P 96 (pC R a nx) xs n w := by
  unfold Ap tyo cso
  rw [if_pos hk, if_pos hk, hn]
theorem apPop (hk : a.k = 1) (hn : nxV P a = nx) : Ap K B M R F own P a xs n w ↔ Atc K B M R F own P 101 (oC R a nx) xs n w := by
  unfold Ap tyo cso
  rw [if_neg (by omega), if_pos hk, if_neg (by omega), if_pos hk, hn]
theorem apSteal (hk : a.k = 2) (hn : nxV P a = nx) : Ap K B M R F own P a xs n w ↔ Atc K B M R F own P 104 (tC R a nx) xs n w := by
  unfold Ap tyo cso
  rw [if_neg (by omega), if_neg (by omega), if_neg (by omega), if_neg (by omega), hn]
end
/-- What a step ends in. -/
def Dst (K : Nat → Prop) (B M R : Nat) (F : Int) (own : Value) (P : Nat) (n : Nat) (w : World) (r : A × List Int × Nat × Int) (e : Ending) (w' : World) : Prop :=
  e = .returned (.int .i64 r.2.2.2) ∧ Ap K B M R F own P r.1 r.2.1 (n + r.2.2.1) w' ∧ Ce.Kept (fun i => K i ∧ i ≠ P) w w'
end Dq
section
variable {K : Nat → Prop} {B M R : Nat} {F : Int} {own : Value} {P : Nat} {xs : List Int} {n : Nat} {w : World} {a : Dq.A}
theorem q_push (h : Dq.Ap K B M R F own P a xs n w) (h0 : a.told = 0) (ok : Dq.Ok F xs a) (hb : Dq.Bd F xs n) (hk : a.k = 0) : Calls Try.prog (Dq.nof a) #[.pointer (some ⟨P, 0, none⟩)] w (Dq.Dst K B M R F own P n w (Dq.acts F xs a)) := by
  have hr := ok.push hk
  have hp : a.pc = 0 ∨ a.pc = 1 ∨ a.pc = 2 ∨ a.pc = 3 ∨ a.pc = 10 ∨ a.pc = 11 ∨ a.pc = 12 ∨ a.pc = 13 ∨ a.pc = 20 ∨ a.pc = 21 := by omega
  have sb := ok.b
  have st := ok.t
  have si := ok.i
  have sb2 := ok.b
  have si2 := ok.i
  unfold Dq.Sm at sb2 si2
  rcases hp with hp | hp | hp | hp | hp | hp | hp | hp | hp | hp
  · have hf : Dq.nof a = Dq.noPush 0 := by simp [Dq.nof, hk, hp]
    have ea : Dq.acts F xs a = ({a with b := Dq.ld xs (F + 1), pc := 1}, xs, 1, 0) := by simp only [Dq.acts, Dq.push, hk, hp]
    rw [hf, ea]
    refine (s_push0 ((Dq.apPush hk rfl).1 h) hb).mono ?_
    rintro e w' ⟨rfl, hh⟩
    exact ⟨rfl, (Dq.apPush (a := {a with b := Dq.ld xs (F + 1), pc := 1}) hk (by simp [Dq.nxV, Dq.nof, Dq.noPush, h0, hk])).2 hh.out.1, hh.out.2⟩
  · have hf : Dq.nof a = Dq.noPush 1 := by simp [Dq.nof, hk, hp]
    have ea : Dq.acts F xs a = ({a with t := Dq.ld xs F, pc := 2}, xs, 1, 0) := by simp only [Dq.acts, Dq.push, hk, hp]
    rw [hf, ea]
    refine (s_push1 ((Dq.apPush hk rfl).1 h) hb).mono ?_
    rintro e w' ⟨rfl, hh⟩
    exact ⟨rfl, (Dq.apPush (a := {a with t := Dq.ld xs F, pc := 2}) hk (by simp [Dq.nxV, Dq.nof, Dq.noPush, h0, hk])).2 hh.out.1, hh.out.2⟩
  · have hf : Dq.nof a = Dq.noPush 2 := by simp [Dq.nof, hk, hp]
    have ea : Dq.acts F xs a = ({a with w := Dq.ld xs (F + 2), pc := 3}, xs, 1, 0) := by simp only [Dq.acts, Dq.push, hk, hp]
    rw [hf, ea]
    refine (s_push2 ((Dq.apPush hk rfl).1 h) hb).mono ?_
    rintro e w' ⟨rfl, hh⟩
    exact ⟨rfl, (Dq.apPush (a := {a with w := Dq.ld xs (F + 2), pc := 3}) hk (by simp [Dq.nxV, Dq.nof, Dq.noPush, h0, hk])).2 hh.out.1, hh.out.2⟩
  · have hf : Dq.nof a = Dq.noPush 3 := by simp [Dq.nof, hk, hp]
    have h3 := hr.1 hp
    by_cases hg : Dq.ld xs a.w ≤ a.b - a.t
    · have ea : Dq.acts F xs a = ({a with n := Dq.ld xs a.w, pc := 10}, xs, 1, 0) := by simp only [Dq.acts, Dq.push, hk, hp, if_pos hg]
      rw [hf, ea]
      refine (s_push3 ((Dq.apPush hk rfl).1 h) hb ⟨h3.1, h3.2.1⟩ ⟨sb, st⟩).mono ?_
      rintro e w' ⟨rfl, hh⟩
      rw [if_pos hg] at hh
      exact ⟨rfl, (Dq.apPush (a := {a with n := Dq.ld xs a.w, pc := 10}) hk (by simp [Dq.nxV, Dq.nof, Dq.noPush, h0, hk])).2 hh.out.1, hh.out.2⟩
    · have ea : Dq.acts F xs a = ({a with n := Dq.ld xs a.w, pc := 20}, xs, 1, 0) := by simp only [Dq.acts, Dq.push, hk, hp, if_neg hg]
      rw [hf, ea]
      refine (s_push3 ((Dq.apPush hk rfl).1 h) hb ⟨h3.1, h3.2.1⟩ ⟨sb, st⟩).mono ?_
      rintro e w' ⟨rfl, hh⟩
      rw [if_neg hg] at hh
      exact ⟨rfl, (Dq.apPush (a := {a with n := Dq.ld xs a.w, pc := 20}) hk (by simp [Dq.nxV, Dq.nof, Dq.noPush, h0, hk])).2 hh.out.1, hh.out.2⟩
  · have hf : Dq.nof a = Dq.noPush 10 := by simp [Dq.nof, hk, hp]
    rw [hf]
    refine s_push10 ((Dq.apPush hk rfl).1 h) hb (hr.2.1 hp) _ (fun h1 w' h2 h3 => ?_) (fun h1 w' h2 h3 => ?_)
    · by_cases hg : a.t < a.b
      · have ea : Dq.acts F xs a = ({a with nw := xs.length, nc := 2 * a.n, i := a.t, pc := 11}, Dq.moreX xs a.n, 0, 0) := by simp only [Dq.acts, Dq.push, hk, hp, h1, if_true, if_pos hg]
        rw [ea]
        rw [if_pos hg] at h2
        exact ⟨rfl, (Dq.apPush (a := {a with nw := xs.length, nc := 2 * a.n, i := a.t, pc := 11}) hk (by simp [Dq.nxV, Dq.nof, Dq.noPush, h0, hk])).2 h2, h3⟩
      · have ea : Dq.acts F xs a = ({a with nw := xs.length, nc := 2 * a.n, i := a.t, pc := 13}, Dq.moreX xs a.n, 0, 0) := by simp only [Dq.acts, Dq.push, hk, hp, h1, if_true, if_neg hg]
        rw [ea]
        rw [if_neg hg] at h2
        exact ⟨rfl, (Dq.apPush (a := {a with nw := xs.length, nc := 2 * a.n, i := a.t, pc := 13}) hk (by simp [Dq.nxV, Dq.nof, Dq.noPush, h0, hk])).2 h2, h3⟩
    · have ea : Dq.acts F xs a = (a, xs, 0, 6) := by simp [Dq.acts, Dq.push, hk, hp, h1]
      rw [ea]
      exact ⟨rfl, (Dq.apPush hk rfl).2 h2, h3⟩
  · have hf : Dq.nof a = Dq.noPush 11 := by simp [Dq.nof, hk, hp]
    have ea : Dq.acts F xs a = ({a with rd := Dq.ld xs (Dq.pl a.w a.n a.i), pc := 12}, xs, 1, 0) := by simp only [Dq.acts, Dq.push, hk, hp]
    rw [hf, ea]
    refine (s_push11 ((Dq.apPush hk rfl).1 h) hb (hr.2.2.1 hp).1 ⟨(hr.2.2.1 hp).2, si2.2⟩).mono ?_
    rintro e w' ⟨rfl, hh⟩
    exact ⟨rfl, (Dq.apPush (a := {a with rd := Dq.ld xs (Dq.pl a.w a.n a.i), pc := 12}) hk (by simp [Dq.nxV, Dq.nof, Dq.noPush, h0, hk])).2 hh.out.1, hh.out.2⟩
  · have hf : Dq.nof a = Dq.noPush 12 := by simp [Dq.nof, hk, hp]
    have h3 := hr.2.2.2.1 hp
    by_cases hg : a.i + 1 < a.b
    · have ea : Dq.acts F xs a = ({a with i := a.i + 1, pc := 11}, Dq.up xs (Dq.pl a.nw a.nc a.i) a.rd, 1, 0) := by simp only [Dq.acts, Dq.push, hk, hp, if_pos hg]
      rw [hf, ea]
      refine (s_push12 ((Dq.apPush hk rfl).1 h) hb h3.1 ⟨h3.2, si2.2⟩).mono ?_
      rintro e w' ⟨rfl, hh⟩
      rw [if_pos hg] at hh
      exact ⟨rfl, (Dq.apPush (a := {a with i := a.i + 1, pc := 11}) hk (by simp [Dq.nxV, Dq.nof, Dq.noPush, h0, hk])).2 hh.out.1, hh.out.2⟩
    · have ea : Dq.acts F xs a = ({a with i := a.i + 1, pc := 13}, Dq.up xs (Dq.pl a.nw a.nc a.i) a.rd, 1, 0) := by simp only [Dq.acts, Dq.push, hk, hp, if_neg hg]
      rw [hf, ea]
      refine (s_push12 ((Dq.apPush hk rfl).1 h) hb h3.1 ⟨h3.2, si2.2⟩).mono ?_
      rintro e w' ⟨rfl, hh⟩
      rw [if_neg hg] at hh
      exact ⟨rfl, (Dq.apPush (a := {a with i := a.i + 1, pc := 13}) hk (by simp [Dq.nxV, Dq.nof, Dq.noPush, h0, hk])).2 hh.out.1, hh.out.2⟩
  · have hf : Dq.nof a = Dq.noPush 13 := by simp [Dq.nof, hk, hp]
    have ea : Dq.acts F xs a = ({a with w := a.nw, n := a.nc, pc := 20}, Dq.up xs (F + 2) a.nw, 1, 0) := by simp only [Dq.acts, Dq.push, hk, hp]
    rw [hf, ea]
    refine (s_push13 ((Dq.apPush hk rfl).1 h) hb).mono ?_
    rintro e w' ⟨rfl, hh⟩
    exact ⟨rfl, (Dq.apPush (a := {a with w := a.nw, n := a.nc, pc := 20}) hk (by simp [Dq.nxV, Dq.nof, Dq.noPush, h0, hk])).2 hh.out.1, hh.out.2⟩
  · have hf : Dq.nof a = Dq.noPush 20 := by simp [Dq.nof, hk, hp]
    have ea : Dq.acts F xs a = ({a with pc := 21}, Dq.up xs (Dq.pl a.w a.n a.b) a.V, 1, 0) := by simp only [Dq.acts, Dq.push, hk, hp]
    rw [hf, ea]
    refine (s_push20 ((Dq.apPush hk rfl).1 h) hb (hr.2.2.2.2.1 hp).1 ⟨(hr.2.2.2.2.1 hp).2, sb2.2⟩).mono ?_
    rintro e w' ⟨rfl, hh⟩
    exact ⟨rfl, (Dq.apPush (a := {a with pc := 21}) hk (by simp [Dq.nxV, Dq.nof, Dq.noPush, h0, hk])).2 hh.out.1, hh.out.2⟩
  · have hf : Dq.nof a = Dq.noPush 21 := by simp [Dq.nof, hk, hp]
    have ea : Dq.acts F xs a = ({a with told := 1, got := 0}, Dq.up xs (F + 1) (a.b + 1), 1, 0) := by simp only [Dq.acts, Dq.push, hk, hp]
    rw [hf, ea]
    refine (s_push21 ((Dq.apPush hk rfl).1 h) hb sb).mono ?_
    rintro e w' ⟨rfl, hh⟩
    exact ⟨rfl, (Dq.apPush (a := {a with told := 1, got := 0}) hk (by simp [Dq.nxV, Dq.nof, Dq.noPush, h0, hk])).2 hh.out.1, hh.out.2⟩
theorem q_pop (h : Dq.Ap K B M R F own P a xs n w) (h0 : a.told = 0) (ok : Dq.Ok F xs a) (hb : Dq.Bd F xs n) (hk : a.k = 1) : Calls Try.prog (Dq.nof a) #[.pointer (some ⟨P, 0, none⟩)] w (Dq.Dst K B M R F own P n w (Dq.acts F xs a)) := by
  have hr := ok.pop hk
  have hp : a.pc = 0 ∨ a.pc = 1 ∨ a.pc = 2 ∨ a.pc = 3 ∨ a.pc = 4 ∨ a.pc = 5 ∨ a.pc = 6 ∨ a.pc = 7 ∨ a.pc = 8 := by omega
  have sb := ok.b
  have st := ok.t
  rcases hp with hp | hp | hp | hp | hp | hp | hp | hp | hp
  · have hf : Dq.nof a = Dq.noPop 0 := by simp [Dq.nof, hk, hp]
    have ea : Dq.acts F xs a = ({a with b := Dq.ld xs (F + 1), pc := 1}, xs, 1, 0) := by simp only [Dq.acts, Dq.pop, hk, hp]
    rw [hf, ea]
    refine (s_pop0 ((Dq.apPop hk rfl).1 h) hb).mono ?_
    rintro e w' ⟨rfl, hh⟩
    exact ⟨rfl, (Dq.apPop (a := {a with b := Dq.ld xs (F + 1), pc := 1}) hk (by simp [Dq.nxV, Dq.nof, Dq.noPop, h0, hk])).2 hh.out.1, hh.out.2⟩
  · have hf : Dq.nof a = Dq.noPop 1 := by simp [Dq.nof, hk, hp]
    have ea : Dq.acts F xs a = ({a with w := Dq.ld xs (F + 2), pc := 2}, xs, 1, 0) := by simp only [Dq.acts, Dq.pop, hk, hp]
    rw [hf, ea]
    refine (s_pop1 ((Dq.apPop hk rfl).1 h) hb).mono ?_
    rintro e w' ⟨rfl, hh⟩
    exact ⟨rfl, (Dq.apPop (a := {a with w := Dq.ld xs (F + 2), pc := 2}) hk (by simp [Dq.nxV, Dq.nof, Dq.noPop, h0, hk])).2 hh.out.1, hh.out.2⟩
  · have hf : Dq.nof a = Dq.noPop 2 := by simp [Dq.nof, hk, hp]
    have ea : Dq.acts F xs a = ({a with pc := 3}, Dq.up xs (F + 1) (a.b - 1), 1, 0) := by simp only [Dq.acts, Dq.pop, hk, hp]
    rw [hf, ea]
    refine (s_pop2 ((Dq.apPop hk rfl).1 h) hb sb).mono ?_
    rintro e w' ⟨rfl, hh⟩
    exact ⟨rfl, (Dq.apPop (a := {a with pc := 3}) hk (by simp [Dq.nxV, Dq.nof, Dq.noPop, h0, hk])).2 hh.out.1, hh.out.2⟩
  · have hf : Dq.nof a = Dq.noPop 3 := by simp [Dq.nof, hk, hp]
    by_cases hg : a.b - 1 < Dq.ld xs F
    · have ea : Dq.acts F xs a = ({a with t := Dq.ld xs F, pc := 4}, xs, 1, 0) := by simp only [Dq.acts, Dq.pop, hk, hp, if_pos hg]
      rw [hf, ea]
      refine (s_pop3 ((Dq.apPop hk rfl).1 h) hb sb).mono ?_
      rintro e w' ⟨rfl, hh⟩
      rw [if_pos hg] at hh
      exact ⟨rfl, (Dq.apPop (a := {a with t := Dq.ld xs F, pc := 4}) hk (by simp [Dq.nxV, Dq.nof, Dq.noPop, h0, hk])).2 hh.out.1, hh.out.2⟩
    · have ea : Dq.acts F xs a = ({a with t := Dq.ld xs F, pc := 5}, xs, 1, 0) := by simp only [Dq.acts, Dq.pop, hk, hp, if_neg hg]
      rw [hf, ea]
      refine (s_pop3 ((Dq.apPop hk rfl).1 h) hb sb).mono ?_
      rintro e w' ⟨rfl, hh⟩
      rw [if_neg hg] at hh
      exact ⟨rfl, (Dq.apPop (a := {a with t := Dq.ld xs F, pc := 5}) hk (by simp [Dq.nxV, Dq.nof, Dq.noPop, h0, hk])).2 hh.out.1, hh.out.2⟩
  · have hf : Dq.nof a = Dq.noPop 8 := by simp [Dq.nof, Dq.noPop, hk, hp]
    have ea : Dq.acts F xs a = ({a with told := 3, got := 0}, Dq.up xs (F + 1) a.b, 1, 0) := by simp only [Dq.acts, Dq.pop, hk, hp]
    rw [hf, ea]
    refine (s_pop8 ((Dq.apPop hk rfl).1 h) hb).mono ?_
    rintro e w' ⟨rfl, ⟨h1, hh⟩ | ⟨h1, hh⟩⟩
    · have := hr.2.2.2.1 hp
      omega
    · exact ⟨rfl, (Dq.apPop (a := {a with told := 3, got := 0}) hk (by simp [Dq.nxV, Dq.nof, Dq.noPop, h0, hk])).2 hh.out.1, hh.out.2⟩
  · have hf : Dq.nof a = Dq.noPop 5 := by simp [Dq.nof, hk, hp]
    have ea : Dq.acts F xs a = ({a with n := Dq.ld xs a.w, pc := 6}, xs, 1, 0) := by simp only [Dq.acts, Dq.pop, hk, hp]
    rw [hf, ea]
    refine (s_pop5 ((Dq.apPop hk rfl).1 h) hb (hr.1 hp)).mono ?_
    rintro e w' ⟨rfl, hh⟩
    exact ⟨rfl, (Dq.apPop (a := {a with n := Dq.ld xs a.w, pc := 6}) hk (by simp [Dq.nxV, Dq.nof, Dq.noPop, h0, hk])).2 hh.out.1, hh.out.2⟩
  · have hf : Dq.nof a = Dq.noPop 6 := by simp [Dq.nof, hk, hp]
    rw [hf]
    refine s_pop6 ((Dq.apPop hk rfl).1 h) hb sb (hr.2.1 hp).1 (hr.2.1 hp).2 _ (fun h1 w' h2 h3 => ?_) (fun h1 w' h2 h3 => ?_)
    · have ea : Dq.acts F xs a = ({a with rd := Dq.ld xs (Dq.pl a.w a.n (a.b - 1)), told := 2, got := Dq.ld xs (Dq.pl a.w a.n (a.b - 1))}, xs, 1, 0) := by simp only [Dq.acts, Dq.pop, hk, hp, if_pos h1]
      rw [ea]
      exact ⟨rfl, (Dq.apPop (a := {a with rd := Dq.ld xs (Dq.pl a.w a.n (a.b - 1)), told := 2, got := Dq.ld xs (Dq.pl a.w a.n (a.b - 1))}) hk (by simp [Dq.nxV, Dq.nof, Dq.noPop, h0, hk])).2 h2, h3⟩
    · have ea : Dq.acts F xs a = ({a with rd := Dq.ld xs (Dq.pl a.w a.n (a.b - 1)), pc := 7}, xs, 1, 0) := by simp only [Dq.acts, Dq.pop, hk, hp, if_neg h1]
      rw [ea]
      exact ⟨rfl, (Dq.apPop (a := {a with rd := Dq.ld xs (Dq.pl a.w a.n (a.b - 1)), pc := 7}) hk (by simp [Dq.nxV, Dq.nof, Dq.noPop, h0, hk])).2 h2, h3⟩
  · have hf : Dq.nof a = Dq.noPop 7 := by simp [Dq.nof, hk, hp]
    rw [hf]
    refine (s_pop7 ((Dq.apPop hk rfl).1 h) hb st (hr.2.2.2.2.1 hp)).mono ?_
    rintro e w' ⟨rfl, ⟨h1, hh⟩ | ⟨h1, hh⟩⟩
    · have ea : Dq.acts F xs a = ({a with i := 1, pc := 8}, Dq.up xs F (a.t + 1), 1, 0) := by simp only [Dq.acts, Dq.pop, hk, hp, if_pos h1]
      rw [ea]
      exact ⟨rfl, (Dq.apPop (a := {a with i := 1, pc := 8}) hk (by simp [Dq.nxV, Dq.nof, Dq.noPop, h0, hk])).2 hh.out.1, hh.out.2⟩
    · have ea : Dq.acts F xs a = ({a with pc := 8}, xs, 1, 0) := by simp only [Dq.acts, Dq.pop, hk, hp, if_neg h1]
      rw [ea]
      exact ⟨rfl, (Dq.apPop (a := {a with pc := 8}) hk (by simp [Dq.nxV, Dq.nof, Dq.noPop, h0, hk])).2 hh.out.1, hh.out.2⟩
  · have hf : Dq.nof a = Dq.noPop 8 := by simp [Dq.nof, hk, hp]
    rw [hf]
    refine (s_pop8 ((Dq.apPop hk rfl).1 h) hb).mono ?_
    rintro e w' ⟨rfl, ⟨h1, hh⟩ | ⟨h1, hh⟩⟩
    · have ea : Dq.acts F xs a = ({a with told := 2, got := a.rd}, Dq.up xs (F + 1) a.b, 1, 0) := by simp only [Dq.acts, Dq.pop, hk, hp, if_pos h1]
      rw [ea]
      exact ⟨rfl, (Dq.apPop (a := {a with told := 2, got := a.rd}) hk (by simp [Dq.nxV, Dq.nof, Dq.noPop, h0, hk])).2 hh.out.1, hh.out.2⟩
    · have ea : Dq.acts F xs a = ({a with told := 3, got := 0}, Dq.up xs (F + 1) a.b, 1, 0) := by simp only [Dq.acts, Dq.pop, hk, hp, if_neg h1]
      rw [ea]
      exact ⟨rfl, (Dq.apPop (a := {a with told := 3, got := 0}) hk (by simp [Dq.nxV, Dq.nof, Dq.noPop, h0, hk])).2 hh.out.1, hh.out.2⟩
theorem q_steal (h : Dq.Ap K B M R F own P a xs n w) (h0 : a.told = 0) (ok : Dq.Ok F xs a) (hb : Dq.Bd F xs n) (hk : a.k = 2) : Calls Try.prog (Dq.nof a) #[.pointer (some ⟨P, 0, none⟩)] w (Dq.Dst K B M R F own P n w (Dq.acts F xs a)) := by
  have hr := ok.steal (by omega)
  have hp : a.pc = 0 ∨ a.pc = 1 ∨ a.pc = 2 ∨ a.pc = 3 ∨ a.pc = 4 ∨ a.pc = 5 := by omega
  have st := ok.t
  have st2 := ok.t
  unfold Dq.Sm at st2
  rcases hp with hp | hp | hp | hp | hp | hp
  · have hf : Dq.nof a = Dq.noSteal 0 := by simp [Dq.nof, hk, hp]
    have ea : Dq.acts F xs a = ({a with t := Dq.ld xs F, pc := 1}, xs, 1, 0) := by simp only [Dq.acts, Dq.steal, hk, hp]
    rw [hf, ea]
    refine (s_steal0 ((Dq.apSteal hk rfl).1 h) hb).mono ?_
    rintro e w' ⟨rfl, hh⟩
    exact ⟨rfl, (Dq.apSteal (a := {a with t := Dq.ld xs F, pc := 1}) hk (by simp [Dq.nxV, Dq.nof, Dq.noSteal, h0, hk])).2 hh.out.1, hh.out.2⟩
  · have hf : Dq.nof a = Dq.noSteal 1 := by simp [Dq.nof, hk, hp]
    rw [hf]
    refine s_steal1 ((Dq.apSteal hk rfl).1 h) hb _ (fun h1 w' h2 h3 => ?_) (fun h1 w' h2 h3 => ?_)
    · have ea : Dq.acts F xs a = ({a with b := Dq.ld xs (F + 1), told := 3, got := 0}, xs, 1, 0) := by simp only [Dq.acts, Dq.steal, hk, hp, if_pos h1]
      rw [ea]
      exact ⟨rfl, (Dq.apSteal (a := {a with b := Dq.ld xs (F + 1), told := 3, got := 0}) hk (by simp [Dq.nxV, Dq.nof, Dq.noSteal, h0, hk])).2 h2, h3⟩
    · have ea : Dq.acts F xs a = ({a with b := Dq.ld xs (F + 1), pc := 2}, xs, 1, 0) := by simp only [Dq.acts, Dq.steal, hk, hp, if_neg h1]
      rw [ea]
      exact ⟨rfl, (Dq.apSteal (a := {a with b := Dq.ld xs (F + 1), pc := 2}) hk (by simp [Dq.nxV, Dq.nof, Dq.noSteal, h0, hk])).2 h2, h3⟩
  · have hf : Dq.nof a = Dq.noSteal 2 := by simp [Dq.nof, hk, hp]
    have ea : Dq.acts F xs a = ({a with w := Dq.ld xs (F + 2), pc := 3}, xs, 1, 0) := by simp only [Dq.acts, Dq.steal, hk, hp]
    rw [hf, ea]
    refine (s_steal2 ((Dq.apSteal hk rfl).1 h) hb).mono ?_
    rintro e w' ⟨rfl, hh⟩
    exact ⟨rfl, (Dq.apSteal (a := {a with w := Dq.ld xs (F + 2), pc := 3}) hk (by simp [Dq.nxV, Dq.nof, Dq.noSteal, h0, hk])).2 hh.out.1, hh.out.2⟩
  · have hf : Dq.nof a = Dq.noSteal 3 := by simp [Dq.nof, hk, hp]
    have ea : Dq.acts F xs a = ({a with n := Dq.ld xs a.w, pc := 4}, xs, 1, 0) := by simp only [Dq.acts, Dq.steal, hk, hp]
    rw [hf, ea]
    refine (s_steal3 ((Dq.apSteal hk rfl).1 h) hb (hr.2.1 hp)).mono ?_
    rintro e w' ⟨rfl, hh⟩
    exact ⟨rfl, (Dq.apSteal (a := {a with n := Dq.ld xs a.w, pc := 4}) hk (by simp [Dq.nxV, Dq.nof, Dq.noSteal, h0, hk])).2 hh.out.1, hh.out.2⟩
  · have hf : Dq.nof a = Dq.noSteal 4 := by simp [Dq.nof, hk, hp]
    have ea : Dq.acts F xs a = ({a with rd := Dq.ld xs (Dq.pl a.w a.n a.t), pc := 5}, xs, 1, 0) := by simp only [Dq.acts, Dq.steal, hk, hp]
    rw [hf, ea]
    refine (s_steal4 ((Dq.apSteal hk rfl).1 h) hb (hr.2.2.1 hp).1 ⟨(hr.2.2.1 hp).2, st2.2⟩).mono ?_
    rintro e w' ⟨rfl, hh⟩
    exact ⟨rfl, (Dq.apSteal (a := {a with rd := Dq.ld xs (Dq.pl a.w a.n a.t), pc := 5}) hk (by simp [Dq.nxV, Dq.nof, Dq.noSteal, h0, hk])).2 hh.out.1, hh.out.2⟩
  · have hf : Dq.nof a = Dq.noSteal 5 := by simp [Dq.nof, hk, hp]
    rw [hf]
    refine s_steal5 ((Dq.apSteal hk rfl).1 h) hb st _ (fun h1 w' h2 h3 => ?_) (fun h1 w' h2 h3 => ?_)
    · have ea : Dq.acts F xs a = ({a with told := 2, got := a.rd}, Dq.up xs F (a.t + 1), 1, 0) := by simp only [Dq.acts, Dq.steal, hk, hp, if_pos h1]
      rw [ea]
      exact ⟨rfl, (Dq.apSteal (a := {a with told := 2, got := a.rd}) hk (by simp [Dq.nxV, Dq.nof, Dq.noSteal, h0, hk])).2 h2, h3⟩
    · have ea : Dq.acts F xs a = ({a with told := 4, got := 0}, xs, 1, 0) := by simp only [Dq.acts, Dq.steal, hk, hp, if_neg h1]
      rw [ea]
      exact ⟨rfl, (Dq.apSteal (a := {a with told := 4, got := 0}) hk (by simp [Dq.nxV, Dq.nof, Dq.noSteal, h0, hk])).2 h2, h3⟩
/-- A step, whichever it is. -/
theorem q_act (h : Dq.Ap K B M R F own P a xs n w) (h0 : a.told = 0) (ok : Dq.Ok F xs a) (hn : n ≤ 999999999999) : Calls Try.prog (Dq.nof a) #[.pointer (some ⟨P, 0, none⟩)] w (Dq.Dst K B M R F own P n w (Dq.acts F xs a)) := by
  have hb : Dq.Bd F xs n := ⟨ok.F0, ok.F3, ok.len, hn⟩
  by_cases h1 : a.k = 0
  · exact q_push h h0 ok hb h1
  · by_cases h2 : a.k = 1
    · exact q_pop h h0 ok hb h2
    · exact q_steal h h0 ok hb (ok.steal (by omega)).1
end
end Go.Proofs.Ytlgelhkpdldgdaa
