/-
  Layer 15: the program's cells: New, More, Load, Store, Swap, Len, Steps.
-/
import Derived.Test.YtlgelhkpdldgdaaCeA
import Derived.Test.YtlgelhkpdldgdaaProg
import Derived.BigQuiet
import Derived.Deep.QuietTactic
import Derived.Deep.RegionLaw
namespace Go.Proofs.Ytlgelhkpdldgdaa
open Go.RowKit

namespace Ce
theorem own_ad {w : World} {base n : Nat} {T : TypeId} {v : Value} {xs : List Value} (h : w.ownsRow base T 1 v n xs) (hn : 0 < n) : ∃ g c, v = .slice (some ⟨g, 0, none⟩) n c := by
  rcases h.2 with ⟨e, h0⟩ | ⟨g, cap, cur, rfl, _⟩
  · omega
  · exact ⟨_, _, rfl⟩
theorem off_add (g k : Nat) : (⟨g, 0, none⟩ : Addr).add k = ⟨g, k, none⟩ := by unfold Addr.add; split <;> simp_all
/-- A row's cell. -/
theorem own_cell {w : World} {base : Nat} {T : TypeId} {g c : Nat} {xs : List Int} (h : w.ownsRow base T 1 (.slice (some ⟨g, 0, none⟩) xs.length c) xs.length (icells xs)) {k : Nat} (hk : k < xs.length) : w.cell? ⟨g, k, none⟩ = some (.int .i64 xs[k]) := by
  have := h.cells (g := g) rfl k (.int .i64 xs[k]) (icells_at hk)
  rw [off_add] at this
  exact this
theorem own_fro {w : World} {base n : Nat} {T : TypeId} {g c : Nat} {xs : List Value} (h : w.ownsRow base T 1 (.slice (some ⟨g, 0, none⟩) n c) n xs) (k : Nat) : w.frozen? ⟨g, k, none⟩ = false := by
  rcases h.2 with ⟨e, h0⟩ | ⟨g', cap, cur, e, _, hh, _⟩
  · cases e
  · injection e with e1
    injection e1 with e1
    injection e1 with e1
    subst e1
    exact frozen_of_row _ _ k _ _ hh
theorem mvg_set {off off' : Nat → Prop} {w w' : World} (h : Gm.Mvg off off' w w') {B : Nat} (hB : ∀ i, i < w.heap.size → off i → i ≠ B) (j : Nat) (x : Value) : Gm.Mvg off off' w (w'.setCell ⟨B, j, none⟩ x) :=
  ⟨h.os, h.tape, h.output, Nat.le_trans h.size (by simp [World.setCell]), fun i hi ho => (Below.heap_setCell _ _ _ _ (hB i hi ho)).trans (h.block i hi ho), h.keep⟩
theorem belDN {B : Nat} {a w : World} (h : Below B a w) (n : Nat) : Below B a (w.drewN n) := ⟨h.os, h.tape, h.output, h.size, h.block⟩
end Ce

section
variable {B M : Nat} {v : Value} {xs : List Int} {n : Nat} {w : World}
theorem cis (h : Ce.PM B M v xs n w) : Calls Try.prog 27 #[.pointer (some ⟨B, 0, none⟩)] w fun e w' => e = .returned (.bool true) ∧ Below w.heap.size w w' := by
  have c0 := h.c0
  clear h
  go_enter Try.func27, Try.ntmps27
  go_wp2_with fail
  go_ret
  exact ⟨rfl, Below.refl _ _⟩

theorem cadd (h : Ce.PM B M v xs n w) (hn : n ≤ 1000000000000) : Calls Try.prog 65 #[.pointer (some ⟨M, 0, none⟩)] w fun e w' => e = .returned (.tuple #[]) ∧ Ce.PM B M v xs (n + 1) w' ∧ Gm.Mvg (Ce.POff B M v) (Ce.POff B M v) w w' := by
  have m0 := h.m0
  have f0 := h.fro 0
  have hw : IntKind.i64.wrap ((n : Int) + 1) = (n : Int) + 1 := by rw [IntKind.wrap_i64]; omega
  have H := Lib.hid h
  clear h
  go_enter Try.func65, Try.ntmps65
  go_wp2_with fail
  go_end0
  exact ⟨rfl, H.out.count, Ce.mvg_set (Gm.Mvg.refl _ _) (fun i _ ho => ho.2.1) _ _⟩
/-- What a step answers: the cell, or that there is none. -/
def Ce.StepP (B M : Nat) (v : Value) (xs : List Int) (n : Nat) (at_ : Int) (w : World) (e : Ending) (w' : World) : Prop :=
  (¬ (0 ≤ at_ ∧ at_ < xs.length) ∧ e = .returned (.tuple #[.pointer none, .int .i64 5]) ∧ Below w.heap.size w w') ∨
    ∃ (k g c : Nat), at_ = (k : Int) ∧ k < xs.length ∧ v = .slice (some ⟨g, 0, none⟩) xs.length c ∧ e = .returned (.tuple #[.pointer (some ⟨g, k, none⟩), .int .i64 0]) ∧ Ce.PM B M v xs (n + 1) w' ∧ Gm.Mvg (Ce.POff B M v) (Ce.POff B M v) w w'
set_option maxRecDepth 20000 in
theorem cstepm (h : Ce.PM B M v xs n w) (hn : n ≤ 1000000000000) (at_ : Int) : Calls Try.prog 54 #[.pointer (some ⟨M, 0, none⟩), .int .i64 at_] w (Ce.StepP B M v xs n at_ w) := by
  obtain ⟨A, c, rfl⟩ := Gm.own_form h.row
  have m1 := h.m1
  have HA := Lib.hid (cadd h hn)
  have H := Lib.hid h
  have bw : ∀ q, Below w.heap.size w (w.drewN q) := fun q => Ce.belDN (Below.refl _ _) q
  by_cases h0 : at_ < 0
  · have HQ : Hid (¬ (0 ≤ at_ ∧ at_ < xs.length)) := by show ¬ _; omega
    clear h HA bw
    go_enter Try.func54, Try.ntmps54
    go_wp2_with fail
    go_ret2
    exact .inl ⟨HQ.out, rfl, Below.refl _ _⟩
  · by_cases h1 : at_ < xs.length
    · obtain ⟨k, rfl⟩ : ∃ k : Nat, at_ = (k : Int) := ⟨at_.toNat, by omega⟩
      have hk : k < xs.length := by omega
      have z0 : (0 : Int) ≤ (k : Int) := by omega
      obtain ⟨g, c', e⟩ := Ce.own_ad h.row (by omega)
      injection e with e1 _ e3
      subst e1
      subst e3
      have HK := Lib.hid hk
      have hd1 : decide ((xs.length : Int) ≤ (k : Int)) = false := by simp; omega
      clear h bw h0 hk
      go_enter Try.func54, Try.ntmps54
      go_wp2_with fail
      refine HA.out.mono ?_
      rintro e w1 ⟨rfl, h1, mv⟩
      have m1' := h1.m1
      have H1 := Lib.hid h1
      have MV := Lib.hid mv
      clear h1 mv m1 HA
      go_wp2_with fail
      go_ret2
      exact .inr ⟨k, g, c, rfl, HK.out, rfl, rfl, H1.out, MV.out⟩
    · have HQ : Hid (¬ (0 ≤ at_ ∧ at_ < xs.length)) := by show ¬ _; omega
      have h2 : (xs.length : Int) ≤ at_ := by omega
      clear h HA bw h1
      go_enter Try.func54, Try.ntmps54
      go_wp2_with fail
      go_ret2
      exact .inl ⟨HQ.out, rfl, Below.refl _ _⟩
set_option maxRecDepth 20000 in
theorem cstep (h : Ce.PM B M v xs n w) (hn : n ≤ 1000000000000) (at_ : Int) : Calls Try.prog 41 #[.pointer (some ⟨B, 0, none⟩), .int .i64 at_] w (Ce.StepP B M v xs n at_ w) := by
  have HI := Lib.hid (cis h)
  have H := Lib.hid h
  have hn2 := hn
  clear h hn
  go_enter Try.func41, Try.ntmps41
  go_wp2_with fail
  refine HI.out.mono ?_
  rintro e w1 ⟨rfl, hb⟩
  have h1 := H.out.below hb
  have c0 := h1.c0
  have HS := Lib.hid (cstepm h1 hn2 at_)
  have HB := Lib.hid hb
  clear h1 hb HI
  go_wp2_with fail
  refine HS.out.mono ?_
  rintro e w2 (⟨hq, rfl, hb2⟩ | ⟨k, g, c, rfl, hk, rfl, rfl, h2, mv⟩)
  · have HQ : Hid (Ce.StepP B M v xs n at_ w (.returned (.tuple #[.pointer none, .int .i64 5])) w2) := .inl ⟨hq, rfl, HB.out.trans (hb2.mono HB.out.size)⟩
    clear hq hb2 HS c0
    go_wp2_with fail
    go_ret2
    exact HQ.out
  · have HQ : Hid (Ce.StepP B M (.slice (some ⟨g, 0, none⟩) xs.length c) xs n (k : Int) w (.returned (.tuple #[.pointer (some ⟨g, k, none⟩), .int .i64 0])) w2) := .inr ⟨k, g, c, rfl, hk, rfl, rfl, h2, (Gm.Mvg.of_below HB.out).trans mv⟩
    clear hk h2 mv HS c0
    go_wp2_with fail
    go_ret2
    exact HQ.out
theorem clen (h : Ce.PM B M v xs n w) : Calls Try.prog 10 #[.pointer (some ⟨B, 0, none⟩)] w fun e w' => e = .returned (.int .i64 (xs.length : Int)) ∧ Below w.heap.size w w' := by
  have HI := Lib.hid (cis h)
  have H := Lib.hid h
  clear h
  go_enter Try.func10, Try.ntmps10
  go_wp2_with fail
  refine HI.out.mono ?_
  rintro e w1 ⟨rfl, hb⟩
  have h1 := H.out.below hb
  obtain ⟨A, c, rfl⟩ := Gm.own_form h1.row
  have c0 := h1.c0
  have m1 := h1.m1
  have HB := Lib.hid hb
  clear h1 hb HI
  go_wp2_with fail
  go_ret
  exact ⟨rfl, HB.out⟩
theorem csteps (h : Ce.PM B M v xs n w) : Calls Try.prog 19 #[.pointer (some ⟨B, 0, none⟩)] w fun e w' => e = .returned (.int .i64 (n : Int)) ∧ Below w.heap.size w w' := by
  have HI := Lib.hid (cis h)
  have H := Lib.hid h
  have HC : Hid (∀ U : World, U.cell? ⟨M, 0, none⟩ = some (.int .i64 (n : Int)) → Calls Try.prog 39 #[.pointer (some ⟨M, 0, none⟩)] U fun e w' => e = .returned (.int .i64 (n : Int)) ∧ U = w') := fun U hU => by
    clear HI H h
    go_enter Try.func39, Try.ntmps39
    go_wp2_with fail
    go_ret
    exact ⟨rfl, rfl⟩
  clear h
  go_enter Try.func19, Try.ntmps19
  go_wp2_with fail
  refine HI.out.mono ?_
  rintro e w1 ⟨rfl, hb⟩
  have h1 := H.out.below hb
  have c0 := h1.c0
  have HCC := Lib.hid (HC.out w1 h1.m0)
  have HB := Lib.hid hb
  clear h1 hb HI HC
  go_wp2_with fail
  refine HCC.out.mono ?_
  rintro e w2 ⟨rfl, rfl⟩
  go_wp2_with fail
  go_ret
  exact ⟨rfl, HB.out⟩
end
theorem cnew (w : World) : Calls Try.prog 8 #[] w fun e w' => ∃ B M, e = .returned (.pointer (some ⟨B, 0, none⟩)) ∧ w.heap.size ≤ B ∧ w.heap.size ≤ M ∧ Ce.PM B M (.slice none 0 0) [] 0 w' ∧ Below w.heap.size w w' := by
  go_enter Try.func8, Try.ntmps8
  go_wp2_with fail
  go_ret
  refine ⟨_, _, rfl, by omega, Nat.le_refl _, ⟨?_, ?_, World.ownsRow_nil _ _ _ _, by omega, (fun e => by cases e), (fun e => by cases e)⟩, ((Below.refl _ _).alloc (Nat.le_refl _) _).alloc (by simp) _⟩
  · have := heap_alloc_new (w.alloc (.cells #[.int .i64 0, .slice none 0 0] 73)) (.cells #[.pointer (some ⟨w.heap.size, 0, none⟩)] 75)
    simpa using this
  · rw [Below.heap_alloc _ _ _ (by simp)]
    exact heap_alloc_new _ _
end Go.Proofs.Ytlgelhkpdldgdaa
