/-
  Layer 16: the program's deque in memory; its row's Load, Store and Swap.
-/
import Derived.Test.YtlgelhkpdldgdaaDqK
namespace Go.Proofs.Ytlgelhkpdldgdaa
open Go.RowKit
set_option linter.unusedVariables false
set_option linter.unusedSimpArgs false

namespace Ce
theorem Kept.refl (K : Nat → Prop) (w : World) : Kept K w w := ⟨rfl, rfl, rfl, Nat.le_refl _, fun _ _ _ => rfl⟩
theorem Kept.trans {K : Nat → Prop} {w w' w'' : World} (h : Kept K w w') (h' : Kept K w' w'') : Kept K w w'' :=
  ⟨h'.os.trans h.os, h'.tape.trans h.tape, h'.output.trans h.output, Nat.le_trans h.size h'.size, fun i hi hk => (h'.block i (Nat.lt_of_lt_of_le hi h.size) hk).trans (h.block i hi hk)⟩
theorem Kept.mono {K K' : Nat → Prop} {w w' : World} (h : Kept K w w') (hk : ∀ i, i < w.heap.size → K' i → K i) : Kept K' w w' :=
  ⟨h.os, h.tape, h.output, h.size, fun i hi h' => h.block i hi (hk i hi h')⟩
theorem Kept.cell {K : Nat → Prop} {w : World} {P : Nat} (hP : ¬ K P) (j : Nat) (x : Value) : Kept K w (w.setCell ⟨P, j, none⟩ x) :=
  ⟨rfl, rfl, rfl, by simp [World.setCell], fun i _ hk => Below.heap_setCell _ _ _ _ fun (e : i = P) => hP (by rw [← e]; exact hk)⟩
theorem Pm.stay {K : Nat → Prop} {B M : Nat} {xs : List Int} {n : Nat} {w w' : World} (h : Pm K B M xs n w) (hs : w.heap.size ≤ w'.heap.size) (hb : ∀ i, i < w.heap.size → ¬ K i → w'.heap[i]? = w.heap[i]?) : Pm K B M xs n w' := by
  obtain ⟨v, h1, h2⟩ := h.ex
  refine ⟨⟨v, h1.of (hb B h1.ltB fun hk => (h2 _ hk).1 rfl) (hb M h1.ltM fun hk => (h2 _ hk).2.1 rfl) (fun i hi => hb i (own_lt h1.row hi.symm) fun hk => (h2 _ hk).2.2 hi.symm), h2⟩, fun i hi => Nat.lt_of_lt_of_le (h.lt i hi) hs⟩
end Ce

namespace Dq
/-- The deque's row at R, its memory; blocks that must stay. -/
structure Dv (K : Nat → Prop) (B M R : Nat) (F : Int) (own : Value) (xs : List Int) (n : Nat) (w : World) : Prop where
  pm : Ce.Pm (fun i => K i ∨ i = R) B M xs n w
  row : w.heap[R]? = some (.cells #[.pointer (some ⟨B, 0, none⟩), .int .i64 F, .int .i64 (ld xs F), .int .i64 (ld xs (F + 1)), own] 81 (0, 0))
  nk : ¬ K R
section
variable {K : Nat → Prop} {B M R : Nat} {F : Int} {own : Value} {xs : List Int} {n : Nat} {w w' : World}
theorem Dv.ltR (h : Dv K B M R F own xs n w) : R < w.heap.size := Gm.ltHeap h.row
theorem Dv.lt (h : Dv K B M R F own xs n w) {i : Nat} (hi : K i) : i < w.heap.size := h.pm.lt i (.inl hi)
theorem Dv.cell (h : Dv K B M R F own xs n w) (j : Nat) {u : Value} (hu : #[.pointer (some ⟨B, 0, none⟩), .int .i64 F, .int .i64 (ld xs F), .int .i64 (ld xs (F + 1)), own][j]? = some u) : w.cell? ⟨R, j, none⟩ = some u := (cell_of_row _ _ j _ _ _ h.row).trans hu
theorem Dv.fro (h : Dv K B M R F own xs n w) (j : Nat) : w.frozen? ⟨R, j, none⟩ = false := frozen_of_row _ _ j _ _ h.row
theorem Dv.stay (h : Dv K B M R F own xs n w) (hs : w.heap.size ≤ w'.heap.size) (hb : ∀ i, i < w.heap.size → ¬ K i → w'.heap[i]? = w.heap[i]?) : Dv K B M R F own xs n w' :=
  ⟨h.pm.stay hs fun i hi hk => hb i hi fun h1 => hk (.inl h1), (hb R h.ltR h.nk).trans h.row, h.nk⟩
theorem Dv.set (h : Dv K B M R F own xs n w) {P : Nat} (hP : K P) (j : Nat) (x : Value) : Dv K B M R F own xs n (w.setCell ⟨P, j, none⟩ x) :=
  h.stay (by simp [World.setCell]) fun i _ hk => Below.heap_setCell _ _ _ _ fun (e : i = P) => hk (by rw [e]; exact hP)
theorem Dv.below (h : Dv K B M R F own xs n w) (hb : Below w.heap.size w w') : Dv K B M R F own xs n w' := h.stay hb.size fun i hi _ => hb.block i hi
theorem Dv.mono {K' : Nat → Prop} (h : Dv K B M R F own xs n w) (hk : ∀ i, K' i → K i) : Dv K' B M R F own xs n w :=
  ⟨h.pm.mono fun i hi => hi.elim (fun h1 => .inl (hk i h1)) .inr, h.row, fun h1 => h.nk (hk _ h1)⟩
/-- Blocks more must stay. -/
theorem Dv.push (h : Dv K B M R F own xs n w) (hb : Below w.heap.size w w') : Dv (fun i => K i ∨ (w.heap.size ≤ i ∧ i < w'.heap.size)) B M R F own xs n w' := by
  have h1 := h.pm.push hb
  have h2 := h.ltR
  exact ⟨h1.mono fun i hi => hi.elim (fun h3 => h3.elim (fun h4 => .inl (.inl h4)) fun h4 => .inr h4) fun h3 => .inl (.inr h3), (hb.block R h2).trans h.row, fun h3 => h3.elim h.nk fun h4 => by omega⟩
end
end Dq

section
variable {K : Nat → Prop} {B M R : Nat} {F : Int} {own : Value} {xs : List Int} {n : Nat} {w : World}
theorem q_keep {e0 e1 p : Value} (hr : w.heap[R]? = some (.cells #[p, .int .i64 F, e0, e1, own] 81 (0, 0))) (at_ v : Int) (h0 : 0 ≤ at_) (hl : at_ ≤ 65536) (hF : 0 ≤ F) (hF2 : F ≤ 65536) : Calls Try.prog 72 #[.pointer (some ⟨R, 0, none⟩), .int .i64 at_, .int .i64 v] w fun e w' =>
    e = .returned (.tuple #[]) ∧ w'.heap[R]? = some (.cells #[p, .int .i64 F, if at_ = F then .int .i64 v else e0, if at_ = F + 1 then .int .i64 v else e1, own] 81 (0, 0)) ∧ Ce.Kept (fun i => i ≠ R) w w' ∧ w'.heap.size = w.heap.size := by
  have c1 : w.cell? ⟨R, 1, none⟩ = some (.int .i64 F) := cell_of_row _ _ 1 _ _ _ hr
  have f2 := frozen_of_row _ _ 2 _ _ hr
  have f3 := frozen_of_row _ _ 3 _ _ hr
  have cc2 : w.cell? ⟨R, 2, none⟩ = some e0 := cell_of_row _ _ 2 _ _ _ hr
  have cc3 : w.cell? ⟨R, 3, none⟩ = some e1 := cell_of_row _ _ 3 _ _ _ hr
  have HR := Lib.hid hr
  by_cases h1 : at_ = F
  · subst h1
    have hw : IntKind.i64.wrap (at_ - at_) = 0 := by rw [IntKind.wrap_i64]; omega
    have HS : Hid (w.heap[R]? = some (.cells #[p, .int .i64 at_, e0, e1, own] 81 (0, 0))) := hr
    clear hr
    go_enter Try.func72, Try.ntmps72
    go_wp2_with fail
    go_end0
    refine ⟨rfl, ?_, Ce.Kept.cell (fun h => h rfl) _ _, by simp [World.setCell]⟩
    rw [heap_setCell_same _ _ _ _ _ _ HS.out]
    rfl
  · by_cases h2 : at_ = F + 1
    · subst h2
      have hw : IntKind.i64.wrap (F + 1 - F) = 1 := by rw [IntKind.wrap_i64]; omega
      have HS : Hid (w.heap[R]? = some (.cells #[p, .int .i64 F, e0, e1, own] 81 (0, 0))) := hr
      clear hr
      go_enter Try.func72, Try.ntmps72
      go_wp2_with fail
      go_end0
      refine ⟨rfl, ?_, Ce.Kept.cell (fun h => h rfl) _ _, by simp [World.setCell]⟩
      rw [heap_setCell_same _ _ _ _ _ _ HS.out]
      rfl
    · have hw : IntKind.i64.wrap (at_ - F) = at_ - F := by rw [IntKind.wrap_i64]; omega
      have d1 : (at_ - F == 0) = false := by simp; omega
      have d2 : (at_ - F == 1) = false := by simp; omega
      have HS : Hid (w.heap[R]? = some (.cells #[p, .int .i64 F, e0, e1, own] 81 (0, 0))) := hr
      have N1 := Lib.hid h1
      have N2 := Lib.hid h2
      clear hr h2 HR
      go_enter Try.func72, Try.ntmps72
      go_wp2_with fail
      go_end0
      refine ⟨rfl, ?_, Ce.Kept.refl _ _, rfl⟩
      first | exact HS.out | (rw [if_neg N1.out, if_neg N2.out]; exact HS.out)
end
namespace Dq
section
variable {K : Nat → Prop} {B M R : Nat} {F : Int} {own : Value} {xs xs' : List Int} {n n' : Nat} {w w2 w3 : World}
/-- The memory did a step, then the row kept what it was told. -/
theorem Dv.next (h : Dv K B M R F own xs n w) (h2 : Ce.Pm (fun i => K i ∨ i = R) B M xs' n' w2) (k2 : Ce.Kept (fun i => K i ∨ i = R) w w2) (hr : w3.heap[R]? = some (.cells #[.pointer (some ⟨B, 0, none⟩), .int .i64 F, .int .i64 (ld xs' F), .int .i64 (ld xs' (F + 1)), own] 81 (0, 0))) (k3 : Ce.Kept (fun i => i ≠ R) w2 w3) : Dv K B M R F own xs' n' w3 ∧ Ce.Kept K w w3 := by
  refine ⟨⟨h2.stay k3.size fun i hi hk => k3.block i hi fun e => hk (.inr e), hr, h.nk⟩, (k2.mono fun i _ hk => .inl hk).trans (k3.mono fun i _ hk e => h.nk (e ▸ hk))⟩
theorem ldV_ld {xs : List Int} {a : Int} (h0 : 0 ≤ a) (hl : a < xs.length) : Ce.ldV xs a = ld xs a ∧ Ce.erC xs a = 0 ∧ (∀ n, Ce.cnt xs a n = n + 1) ∧ (∀ x, Ce.stX xs a x = up xs a x) ∧ (∀ o, Ce.swB xs a o = decide (ld xs a = o)) ∧ (∀ o x, Ce.swX xs a o x = if ld xs a = o then up xs a x else xs) := by
  have h : Ce.has xs a = true := decide_eq_true ⟨h0, hl⟩
  refine ⟨by unfold Ce.ldV; rw [h]; rfl, by unfold Ce.erC; rw [h]; rfl, fun n => by unfold Ce.cnt; rw [h]; rfl, fun x => by unfold Ce.stX; rw [h]; rfl, fun o => by unfold Ce.swB; rw [h]; rfl, fun o x => ?_⟩
  unfold Ce.swX Ce.swB
  rw [h, Bool.true_and]
  by_cases e : xs.getD a.toNat 0 = o
  · rw [decide_eq_true e, if_pos rfl, if_pos (by exact e)]; rfl
  · rw [decide_eq_false e, if_neg (by decide), if_neg (by exact e)]
end
end Dq
section
variable {K : Nat → Prop} {B M R : Nat} {F : Int} {own : Value} {xs : List Int} {n : Nat} {w : World}
theorem q_load (h : Dq.Dv K B M R F own xs n w) (hn : n ≤ 999999999999) (hx : xs.length ≤ 65536) (hF : 0 ≤ F) (hF3 : F + 3 ≤ xs.length) (at_ : Int) (h0 : 0 ≤ at_) (hl : at_ < xs.length) : Calls Try.prog 66 #[.pointer (some ⟨R, 0, none⟩), .int .i64 at_] w fun e w' =>
    e = .returned (.tuple #[.int .i64 (Dq.ld xs at_), .int .i64 0]) ∧ Dq.Dv K B M R F own xs (n + 1) w' ∧ Ce.Kept K w w' := by
  have c0 := h.cell 0 rfl
  have HL := Lib.hid (pm_load h.pm (by omega) at_)
  have HE := Lib.hid (Dq.ldV_ld h0 hl)
  have H := Lib.hid h
  have HB : Hid ((0 ≤ at_ ∧ at_ ≤ 65536) ∧ 0 ≤ F ∧ F ≤ 65536) := by show _ ∧ _; omega
  clear h h0 hl hn hx hF hF3
  go_enter Try.func66, Try.ntmps66
  go_wp2_with fail
  refine HL.out.mono ?_
  rintro e w2 ⟨he, h2, k2⟩
  rw [HE.out.1, HE.out.2.1] at he
  rw [HE.out.2.2.1] at h2
  subst he
  have r2 := k2.row H.out.row (.inr rfl)
  have HK := Lib.hid (q_keep r2 at_ (Dq.ld xs at_) HB.out.1.1 HB.out.1.2 HB.out.2.1 HB.out.2.2)
  have H2 := Lib.hid h2
  have K2 := Lib.hid k2
  clear h2 k2 r2 c0 HL
  go_wp2_with fail
  refine HK.out.mono ?_
  rintro e w3 ⟨rfl, r3, k3, _⟩
  have r4 : w3.heap[R]? = some (.cells #[.pointer (some ⟨B, 0, none⟩), .int .i64 F, .int .i64 (Dq.ld xs F), .int .i64 (Dq.ld xs (F + 1)), own] 81 (0, 0)) := by
    rw [r3]
    congr 2
    by_cases e1 : at_ = F
    · subst e1
      rw [if_pos rfl, if_neg (by omega)]
    · by_cases e2 : at_ = F + 1
      · subst e2
        rw [if_neg e1, if_pos rfl]
      · rw [if_neg e1, if_neg e2]
  have H3 := Lib.hid (H.out.next H2.out K2.out r4 k3)
  clear r3 r4 k3 HK
  go_wp2_with fail
  go_ret2
  exact ⟨rfl, H3.out⟩
theorem q_store (h : Dq.Dv K B M R F own xs n w) (hn : n ≤ 999999999999) (hx : xs.length ≤ 65536) (hF : 0 ≤ F) (hF3 : F + 3 ≤ xs.length) (at_ v : Int) (h0 : 0 ≤ at_) (hl : at_ < xs.length) : Calls Try.prog 76 #[.pointer (some ⟨R, 0, none⟩), .int .i64 at_, .int .i64 v] w fun e w' =>
    e = .returned (.int .i64 0) ∧ Dq.Dv K B M R F own (Dq.up xs at_ v) (n + 1) w' ∧ Ce.Kept K w w' := by
  have c0 := h.cell 0 rfl
  have HL := Lib.hid (pm_store h.pm (by omega) at_ v)
  have HE := Lib.hid (Dq.ldV_ld h0 hl)
  have H := Lib.hid h
  have HB : Hid ((0 ≤ at_ ∧ at_ ≤ 65536) ∧ 0 ≤ F ∧ F ≤ 65536) := by show _ ∧ _; omega
  have HQ : Hid (at_ < xs.length) := hl
  clear h h0 hl hn hx hF hF3
  go_enter Try.func76, Try.ntmps76
  go_wp2_with fail
  refine HL.out.mono ?_
  rintro e w2 ⟨he, h2, k2⟩
  rw [HE.out.2.1] at he
  rw [HE.out.2.2.1, HE.out.2.2.2.1] at h2
  subst he
  have r2 := k2.row H.out.row (.inr rfl)
  have HK := Lib.hid (q_keep r2 at_ v HB.out.1.1 HB.out.1.2 HB.out.2.1 HB.out.2.2)
  have H2 := Lib.hid h2
  have K2 := Lib.hid k2
  clear h2 k2 r2 c0 HL
  go_wp2_with fail
  refine HK.out.mono ?_
  rintro e w3 ⟨rfl, r3, k3, _⟩
  have r4 : w3.heap[R]? = some (.cells #[.pointer (some ⟨B, 0, none⟩), .int .i64 F, .int .i64 (Dq.ld (Dq.up xs at_ v) F), .int .i64 (Dq.ld (Dq.up xs at_ v) (F + 1)), own] 81 (0, 0)) := by
    have hb := HB.out
    rw [r3, Dq.ld_up hb.1.1 hb.2.1 HQ.out, Dq.ld_up hb.1.1 (by omega) HQ.out]
    congr 2
    by_cases e1 : at_ = F
    · subst e1
      rw [if_pos rfl, if_neg (by omega), if_pos rfl, if_neg (by omega)]
    · by_cases e2 : at_ = F + 1
      · subst e2
        rw [if_neg e1, if_pos rfl, if_neg (by omega), if_pos rfl]
      · rw [if_neg e1, if_neg e2, if_neg (by omega), if_neg (by omega)]
  have H3 := Lib.hid (H.out.next H2.out K2.out r4 k3)
  clear r3 r4 k3 HK
  go_wp2_with fail
  go_ret
  exact ⟨rfl, H3.out⟩
end
end Go.Proofs.Ytlgelhkpdldgdaa
