/-
  Layer 16: the program's deque: what acts have in common.
-/
import Derived.Test.YtlgelhkpdldgdaaDqA
namespace Go.Proofs.Ytlgelhkpdldgdaa
open Go.RowKit
set_option linter.unusedVariables false
set_option linter.unusedSimpArgs false

@[go_sem] theorem Dq.run_st_nilFunc (P : Program) (w : World) (a : Addr) (m : Mode) : (store a .nilFunc m).run P w = stored P w a .nilFunc m := run_store P w a _ m rfl
@[go_sem] theorem Dq.run_st_func (P : Program) (w : World) (a : Addr) (m : Mode) (f : Fn) (x y : Array Value) : (store a (.func f x y) m).run P w = stored P w a (.func f x y) m := run_store P w a _ m rfl
namespace Dq
/-- A next step, or none. -/
def Fnv (v : Value) : Prop := v = .nilFunc ∨ ∃ f x y, v = .func f x y
/-- An act at block P, whose cells are cs, of a deque. -/
structure Atc (K : Nat → Prop) (B M R : Nat) (F : Int) (own : Value) (P : Nat) (T : TypeId) (cs : Array Value) (xs : List Int) (n : Nat) (w : World) : Prop where
  dv : Dv K B M R F own xs n w
  act : w.heap[P]? = some (.cells cs T (0, 0))
  kP : K P
  r : cs[2]? = some (.pointer (some ⟨R, 0, none⟩))
  sz : 9 ≤ cs.size
structure Bd (F : Int) (xs : List Int) (n : Nat) : Prop where
  F0 : 0 ≤ F
  F3 : F + 3 ≤ xs.length
  len : xs.length ≤ 65536
  n : n ≤ 999999999999
section
variable {K : Nat → Prop} {B M R : Nat} {F : Int} {own : Value} {P : Nat} {T : TypeId} {cs : Array Value} {xs xs' : List Int} {n n' : Nat} {w w' : World}
theorem Atc.cell (h : Atc K B M R F own P T cs xs n w) (j : Nat) {u : Value} (hu : cs[j]? = some u) : w.cell? ⟨P, j, none⟩ = some u := (cell_of_row _ _ j _ _ _ h.act).trans hu
theorem Atc.fro (h : Atc K B M R F own P T cs xs n w) (j : Nat) : w.frozen? ⟨P, j, none⟩ = false := frozen_of_row _ _ j _ _ h.act
theorem Atc.has (h : Atc K B M R F own P T cs xs n w) (j : Nat) (hj : j < 9) : ∃ u, w.cell? ⟨P, j, none⟩ = some u := by
  have := h.sz
  exact ⟨_, h.cell j (Array.getElem?_eq_getElem (by omega))⟩
theorem Atc.ne (h : Atc K B M R F own P T cs xs n w) : P ≠ R := fun e => h.dv.nk (e ▸ h.kP)
theorem Atc.set (h : Atc K B M R F own P T cs xs n w) (j : Nat) (x : Value) (hj : j ≠ 2) : Atc K B M R F own P T (cs.setIfInBounds j x) xs n (w.setCell ⟨P, j, none⟩ x) :=
  ⟨h.dv.set h.kP j x, by rw [heap_setCell_same _ _ _ _ _ _ h.act], h.kP, by rw [Array.getElem?_setIfInBounds, if_neg hj]; exact h.r, by rw [Array.size_setIfInBounds]; exact h.sz⟩
theorem Atc.below (h : Atc K B M R F own P T cs xs n w) (hb : Below w.heap.size w w') : Atc K B M R F own P T cs xs n w' :=
  ⟨h.dv.below hb, (hb.block P (h.dv.lt h.kP)).trans h.act, h.kP, h.r, h.sz⟩
theorem Atc.next (h : Atc K B M R F own P T cs xs n w) (h2 : Dv K B M R F own xs' n' w') (k : Ce.Kept K w w') : Atc K B M R F own P T cs xs' n' w' :=
  ⟨h2, k.row h.act h.kP, h.kP, h.r, h.sz⟩
end
end Dq
section
variable {K : Nat → Prop} {B M R : Nat} {F : Int} {own : Value} {P : Nat} {T : TypeId} {cs : Array Value} {xs : List Int} {n : Nat} {w : World}
theorem q_over (h : Dq.Atc K B M R F own P T cs xs n w) {told : Int} (ht : cs[7]? = some (.int .u8 told)) : Calls Try.prog 35 #[.pointer (some ⟨P, 0, none⟩)] w fun e w' => e = .returned (.bool (decide (told ≠ 0))) ∧ w = w' := by
  have c7 := h.cell 7 ht
  clear h
  go_enter Try.func35, Try.ntmps35
  go_wp2_with fail
  go_ret
  refine ⟨?_, rfl⟩
  first | rfl | (by_cases h0 : told = 0 <;> simp [h0])
theorem q_end (h : Dq.Atc K B M R F own P T cs xs n w) (came got : Int) : Calls Try.prog 61 #[.pointer (some ⟨P, 0, none⟩), .int .u8 came, .int .i64 got] w fun e w' =>
    e = .returned (.tuple #[]) ∧ Dq.Atc K B M R F own P T (((cs.setIfInBounds 6 .nilFunc).setIfInBounds 7 (.int .u8 came)).setIfInBounds 8 (.int .i64 got)) xs n w' ∧ Ce.Kept (fun i => K i ∧ i ≠ P) w w' := by
  obtain ⟨u6, c6⟩ := h.has 6 (by decide)
  obtain ⟨u7, c7⟩ := h.has 7 (by decide)
  obtain ⟨u8, c8⟩ := h.has 8 (by decide)
  have f6 := h.fro 6
  have f7 := h.fro 7
  have f8 := h.fro 8
  have H := Lib.hid (((h.set 6 .nilFunc (by decide)).set 7 (.int .u8 came) (by decide)).set 8 (.int .i64 got) (by decide))
  clear h
  go_enter Try.func61, Try.ntmps61
  go_wp2_with fail
  go_end0
  exact ⟨rfl, H.out, ((Ce.Kept.cell (fun h => h.2 rfl) _ _).trans (Ce.Kept.cell (fun h => h.2 rfl) _ _)).trans (Ce.Kept.cell (fun h => h.2 rfl) _ _)⟩
theorem q_cell (h : Dq.Atc K B M R F own P T cs xs n w) (k : Int) (hk : 0 ≤ k ∧ k ≤ 3) (hF : 0 ≤ F ∧ F ≤ 65536) : Calls Try.prog 56 #[.pointer (some ⟨P, 0, none⟩), .int .i64 k] w fun e w' => e = .returned (.int .i64 (F + k)) ∧ w = w' := by
  have c2 := h.cell 2 h.r
  have r1 := h.dv.cell 1 rfl
  have hw : IntKind.i64.wrap (F + k) = F + k := by rw [IntKind.wrap_i64]; omega
  clear h
  go_enter Try.func56, Try.ntmps56
  go_wp2_with fail
  go_ret
  exact ⟨rfl, rfl⟩
theorem q_read (h : Dq.Atc K B M R F own P T cs xs n w) (hb : Dq.Bd F xs n) (at_ : Int) (h0 : 0 ≤ at_) (hl : at_ < xs.length) (j : Nat) (hj : j ≠ 2 ∧ j < 9 ∧ j ≠ 6) (nx : Value) (hn : Dq.Fnv nx) : Calls Try.prog 55 #[.pointer (some ⟨P, 0, none⟩), .int .i64 at_, .pointer (some ⟨P, j, none⟩), nx] w fun e w' =>
    e = .returned (.int .i64 0) ∧ Dq.Atc K B M R F own P T ((cs.setIfInBounds j (.int .i64 (Dq.ld xs at_))).setIfInBounds 6 nx) xs (n + 1) w' ∧ Ce.Kept (fun i => K i ∧ i ≠ P) w w' := by
  have c2 := h.cell 2 h.r
  have HL := Lib.hid (q_load h.dv hb.n hb.len hb.F0 hb.F3 at_ h0 hl)
  have H := Lib.hid h
  have HJ := Lib.hid hj
  have j6 : ¬ j = 6 := hj.2.2
  have j6' : ¬ 6 = j := fun e => hj.2.2 e.symm
  have HS : Hid (∀ W, Dq.Atc K B M R F own P T cs xs (n + 1) W → Dq.Atc K B M R F own P T ((cs.setIfInBounds j (.int .i64 (Dq.ld xs at_))).setIfInBounds 6 nx) xs (n + 1) ((W.setCell ⟨P, j, none⟩ (.int .i64 (Dq.ld xs at_))).setCell ⟨P, 6, none⟩ nx)) := fun W h => (h.set j _ hj.1).set 6 nx (by decide)
  clear h hb h0 hl hj
  rcases hn with rfl | ⟨nf, nx1, nx2, rfl⟩
  all_goals
    go_enter Try.func55, Try.ntmps55
    go_wp2_with fail
    refine HL.out.mono ?_
    rintro e w2 ⟨rfl, h2, k2⟩
    have h3 := H.out.next h2 k2
    obtain ⟨uj, cj⟩ := h3.has j HJ.out.2.1
    obtain ⟨u6, c6⟩ := h3.has 6 (by decide)
    have fj := h3.fro j
    have f6 := h3.fro 6
    have K2 := Lib.hid k2
    have H4 := Lib.hid (HS.out _ h3)
    clear h2 k2 h3 c2 HL
    go_wp2_with fail
    go_ret
    exact ⟨rfl, H4.out, (K2.out.mono fun i _ h => h.1).trans ((Ce.Kept.cell (fun h => h.2 rfl) _ _).trans (Ce.Kept.cell (fun h => h.2 rfl) _ _))⟩
theorem q_write (h : Dq.Atc K B M R F own P T cs xs n w) (hb : Dq.Bd F xs n) (at_ v : Int) (h0 : 0 ≤ at_) (hl : at_ < xs.length) (nx : Value) (hn : Dq.Fnv nx) : Calls Try.prog 68 #[.pointer (some ⟨P, 0, none⟩), .int .i64 at_, .int .i64 v, nx] w fun e w' =>
    e = .returned (.int .i64 0) ∧ Dq.Atc K B M R F own P T (cs.setIfInBounds 6 nx) (Dq.up xs at_ v) (n + 1) w' ∧ Ce.Kept (fun i => K i ∧ i ≠ P) w w' := by
  have c2 := h.cell 2 h.r
  have HL := Lib.hid (q_store h.dv hb.n hb.len hb.F0 hb.F3 at_ v h0 hl)
  have H := Lib.hid h
  have HS : Hid (∀ W, Dq.Atc K B M R F own P T cs (Dq.up xs at_ v) (n + 1) W → Dq.Atc K B M R F own P T (cs.setIfInBounds 6 nx) (Dq.up xs at_ v) (n + 1) (W.setCell ⟨P, 6, none⟩ nx)) := fun W h => h.set 6 nx (by decide)
  clear h hb h0 hl
  rcases hn with rfl | ⟨nf, nx1, nx2, rfl⟩
  all_goals
    go_enter Try.func68, Try.ntmps68
    go_wp2_with fail
    refine HL.out.mono ?_
    rintro e w2 ⟨rfl, h2, k2⟩
    have h3 := H.out.next h2 k2
    obtain ⟨u6, c6⟩ := h3.has 6 (by decide)
    have f6 := h3.fro 6
    have K2 := Lib.hid k2
    have H4 := Lib.hid (HS.out _ h3)
    clear h2 k2 h3 c2 HL
    go_wp2_with fail
    go_ret
    exact ⟨rfl, H4.out, (K2.out.mono fun i _ h => h.1).trans (Ce.Kept.cell (fun h => h.2 rfl) _ _)⟩
theorem Ce.Kept.aft {K : Nat → Prop} {w U w' : World} (hb : Below w.heap.size w U) (h : Ce.Kept K U w') : Ce.Kept K w w' := (Ce.Kept.of_below hb).trans h
theorem q_readBottom (h : Dq.Atc K B M R F own P T cs xs n w) (hb : Dq.Bd F xs n) (nx : Value) (hn : Dq.Fnv nx) : Calls Try.prog 43 #[.pointer (some ⟨P, 0, none⟩), nx] w fun e w' =>
    e = .returned (.int .i64 0) ∧ Dq.Atc K B M R F own P T ((cs.setIfInBounds 4 (.int .i64 (Dq.ld xs (F + 1)))).setIfInBounds 6 nx) xs (n + 1) w' ∧ Ce.Kept (fun i => K i ∧ i ≠ P) w w' := by
  have HC : Hid (∀ U, Below w.heap.size w U → Calls Try.prog 56 #[.pointer (some ⟨P, 0, none⟩), .int .i64 1] U fun e w' => e = .returned (.int .i64 (F + 1)) ∧ U = w') := fun U hU => q_cell (h.below hU) 1 (by omega) (by have := hb.F0; have := hb.F3; have := hb.len; omega)
  have HR : Hid (∀ U, Below w.heap.size w U → Calls Try.prog 55 #[.pointer (some ⟨P, 0, none⟩), .int .i64 (F + 1), .pointer (some ⟨P, 4, none⟩), nx] U fun e w' => e = .returned (.int .i64 0) ∧ Hid (Dq.Atc K B M R F own P T ((cs.setIfInBounds 4 (.int .i64 (Dq.ld xs (F + 1)))).setIfInBounds 6 nx) xs (n + 1) w' ∧ Ce.Kept (fun i => K i ∧ i ≠ P) w w')) := fun U hU => by
    refine (q_read (h.below hU) hb (F + 1) (by have := hb.F0; omega) (by have := hb.F3; omega) 4 (by decide) nx hn).mono ?_
    rintro e w' ⟨rfl, h1, h2⟩
    exact ⟨rfl, h1, h2.aft hU⟩
  have hd : Below w.heap.size w w.drew := (Below.refl _ _).drew
  clear h hb
  go_enter Try.func43, Try.ntmps43
  go_wp2_with fail
  go_region_with (first
    | (go_at_call 56; refine (HC.out _ hd).mono ?_; rintro e w' ⟨rfl, rfl⟩)
    | (go_at_call 55; refine (HR.out _ hd).mono ?_; rintro e w' ⟨rfl, hh⟩))
  all_goals
    go_wp2_with fail
    go_ret
    exact ⟨rfl, hh.out⟩
end
end Go.Proofs.Ytlgelhkpdldgdaa
