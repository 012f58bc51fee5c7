/-
  Layer 16: the program's deque: top goes on by one.
-/
import Derived.Test.YtlgelhkpdldgdaaDqC
namespace Go.Proofs.Ytlgelhkpdldgdaa
open Go.RowKit
set_option linter.unusedVariables false
set_option linter.unusedSimpArgs false

section
variable {K : Nat → Prop} {B M R : Nat} {F : Int} {own : Value} {P : Nat} {T : TypeId} {cs : Array Value} {xs : List Int} {n : Nat} {w : World}
set_option maxHeartbeats 2000000 in
theorem q_swap (h : Dq.Dv K B M R F own xs n w) (hb : Dq.Bd F xs n) (old v : Int) : Calls Try.prog 93 #[.pointer (some ⟨R, 0, none⟩), .int .i64 old, .int .i64 v] w fun e w' =>
    e = .returned (.bool (decide (Dq.ld xs F = old))) ∧ Dq.Dv K B M R F own (if Dq.ld xs F = old then Dq.up xs F v else xs) (n + 1) w' ∧ Ce.Kept K w w' := by
  have F0 := hb.F0
  have F3 := hb.F3
  have HN := Lib.hid hb.n
  have HE := Lib.hid (Dq.ldV_ld F0 (show F < xs.length by omega))
  have HS : Hid (∀ U, Below w.heap.size w U → Calls Try.prog 94 #[.pointer (some ⟨B, 0, none⟩), .int .i64 F, .int .i64 old, .int .i64 v] U fun e w' => e = .returned (.tuple #[.bool (decide (Dq.ld xs F = old)), .int .i64 0]) ∧ Hid (Ce.Pm (fun i => K i ∨ i = R) B M (if Dq.ld xs F = old then Dq.up xs F v else xs) (n + 1) w' ∧ Ce.Kept (fun i => K i ∨ i = R) w w')) := fun U hU => by
    refine (pm_swap (h.pm.below hU) (by have := hb.n; omega) F old v).mono ?_
    rintro e w' ⟨rfl, h2, k2⟩
    rw [HE.out.2.1, HE.out.2.2.2.2.1]
    rw [HE.out.2.2.1, HE.out.2.2.2.2.2] at h2
    exact ⟨rfl, h2, k2.aft hU⟩
  have H := Lib.hid h
  have HQ : Hid (0 ≤ F ∧ F < xs.length) := by show _ ∧ _; omega
  have c0 := h.cell 0 rfl
  have c1 := h.cell 1 rfl
  have hd : Below w.heap.size w w.drew := (Below.refl _ _).drew
  have hw : IntKind.i64.wrap (F + 0) = F := by rw [IntKind.wrap_i64]; have := hb.len; omega
  have hw' : IntKind.i64.wrap F = F := by rw [IntKind.wrap_i64]; have := hb.len; omega
  clear h hb F0 F3
  go_enter Try.func93, Try.ntmps93
  go_upto_region 1 with fail
  go_region_with (go_at_call 94; refine (HS.out _ hd).mono ?_; rintro e w2 ⟨rfl, hh⟩)
  all_goals
    have r2 := hh.out.2.row H.out.row (.inr rfl)
    have cc2 : w2.cell? ⟨R, 2, none⟩ = some (.int .i64 (Dq.ld xs F)) := cell_of_row _ _ 2 _ _ _ r2
    have f2 := frozen_of_row _ _ 2 _ _ r2
    by_cases ho : Dq.ld xs F = old
    · have HX : Hid (Dq.Dv K B M R F own (Dq.up xs F v) (n + 1) (w2.setCell ⟨R, 2, none⟩ (.int .i64 v)) ∧ Ce.Kept K w (w2.setCell ⟨R, 2, none⟩ (.int .i64 v))) := by
        have h3 := hh.out.1
        rw [if_pos ho] at h3
        refine H.out.next h3 hh.out.2 ?_ (Ce.Kept.cell (fun h => h rfl) _ _)
        rw [heap_setCell_same _ _ _ _ _ _ r2, Dq.ld_up HQ.out.1 HQ.out.1 HQ.out.2, if_pos rfl, Dq.ld_up_ne HQ.out.1 (by have := HQ.out.1; omega) (by omega)]
        rfl
      have HO := Lib.hid ho
      have hdt : decide (Dq.ld xs F = old) = true := decide_eq_true ho
      clear hh r2 ho
      rw [hdt]
      go_wp2_with fail
      go_ret
      refine ⟨by first | rfl | rw [decide_eq_true HO.out], ?_⟩
      first | exact HX.out | (rw [if_pos HO.out]; exact HX.out)
    · have HX : Hid (Dq.Dv K B M R F own xs (n + 1) w2 ∧ Ce.Kept K w w2) := by
        have h3 := hh.out.1
        rw [if_neg ho] at h3
        exact H.out.next h3 hh.out.2 r2 (Ce.Kept.refl _ _)
      have HO := Lib.hid ho
      have hdt : decide (Dq.ld xs F = old) = false := decide_eq_false ho
      clear hh r2 ho
      rw [hdt]
      go_wp2_with fail
      go_ret
      refine ⟨by first | rfl | rw [decide_eq_false HO.out], ?_⟩
      first | exact HX.out | (rw [if_neg HO.out]; exact HX.out)
set_option maxHeartbeats 2000000 in
theorem q_take (h : Dq.Atc K B M R F own P T cs xs n w) (hb : Dq.Bd F xs n) {t : Int} (ht : cs[3]? = some (.int .i64 t)) (ht1 : -1 ≤ t ∧ t ≤ 1000000) : Calls Try.prog 91 #[.pointer (some ⟨P, 0, none⟩)] w fun e w' =>
    e = .returned (.bool (decide (Dq.ld xs F = t))) ∧ Hid (Dq.Atc K B M R F own P T cs (if Dq.ld xs F = t then Dq.up xs F (t + 1) else xs) (n + 1) w' ∧ Ce.Kept K w w') := by
  have HS : Hid (∀ U, Below w.heap.size w U → Calls Try.prog 93 #[.pointer (some ⟨R, 0, none⟩), .int .i64 t, .int .i64 (t + 1)] U fun e w' => e = .returned (.bool (decide (Dq.ld xs F = t))) ∧ Hid (Dq.Atc K B M R F own P T cs (if Dq.ld xs F = t then Dq.up xs F (t + 1) else xs) (n + 1) w' ∧ Ce.Kept K w w')) := fun U hU => by
    refine (q_swap (h.dv.below hU) hb t (t + 1)).mono ?_
    rintro e w' ⟨rfl, h2, k2⟩
    exact ⟨rfl, (h.below hU).next h2 k2, k2.aft hU⟩
  obtain ⟨z, hz⟩ : ∃ z, z = decide (Dq.ld xs F = t) := ⟨_, rfl⟩
  obtain ⟨ys, hy⟩ : ∃ ys, ys = (if Dq.ld xs F = t then Dq.up xs F (t + 1) else xs) := ⟨_, rfl⟩
  rw [← hz, ← hy] at HS ⊢
  have c2 := h.cell 2 h.r
  have c3 := h.cell 3 ht
  have hd : Below w.heap.size w w.drew := (Below.refl _ _).drew
  have hw : IntKind.i64.wrap (t + 1) = t + 1 := by rw [IntKind.wrap_i64]; omega
  clear h hb ht1 hz hy
  go_enter Try.func91, Try.ntmps91
  go_wp2_with fail
  go_region_with (go_at_call 93; refine (HS.out _ hd).mono ?_; rintro e w2 ⟨rfl, hh⟩)
  all_goals
    go_wp2_with fail
    go_ret
    exact ⟨rfl, hh⟩
end
end Go.Proofs.Ytlgelhkpdldgdaa
