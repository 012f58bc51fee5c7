/-
  Layer 16: the program's acts: Step, Told.
-/
import Derived.Test.YtlgelhkpdldgdaaDqU
namespace Go.Proofs.Ytlgelhkpdldgdaa
open Go.RowKit
set_option linter.unusedVariables false
set_option linter.unusedSimpArgs false

namespace Dq
section
variable {K : Nat → Prop} {B M R : Nat} {F : Int} {own : Value} {P : Nat} {xs : List Int} {n : Nat} {w : World} {a : A} {nx : Value}
theorem cso_at : (cso R a nx)[6]? = some nx ∧ (cso R a nx)[7]? = some (.int .u8 a.told) ∧ (cso R a nx)[8]? = some (.int .i64 a.got) := by
  unfold cso
  split
  · exact ⟨rfl, rfl, rfl⟩
  · split
    · exact ⟨rfl, rfl, rfl⟩
    · exact ⟨rfl, rfl, rfl⟩
theorem Ap.c6 (h : Ap K B M R F own P a xs n w) (h0 : a.told = 0) : w.cell? ⟨P, 6, none⟩ = some (.func (.func (nof a)) #[.pointer (some ⟨P, 0, none⟩)] #[]) := by
  rw [Atc.cell h 6 cso_at.1]
  unfold nxV
  rw [if_pos h0]
  rfl
theorem Ap.c7 (h : Ap K B M R F own P a xs n w) : w.cell? ⟨P, 7, none⟩ = some (.int .u8 a.told) := Atc.cell h 7 cso_at.2.1
theorem Ap.c8 (h : Ap K B M R F own P a xs n w) : w.cell? ⟨P, 8, none⟩ = some (.int .i64 a.got) := Atc.cell h 8 cso_at.2.2
theorem enterF {P : Program} {f : FuncId} {fn : Func} {c : Code} (hf : P.funcs[f]? = some fn) (hname : (fn.name == "runtime.NumGoroutine") = false) (hb : fn.body = some c) (args : Array Value) (w : World) : (callFunc f args).run P w = .ok (.enter f args) w := by
  have h1 : fn.name ≠ "runtime.NumGoroutine" := by simpa using hname
  simp [callFunc, hf, h1, hb]
theorem nof_calls (a : A) (args : Array Value) (w : World) : (callFunc (nof a) args).run Try.prog w = .ok (.enter (nof a) args) w := by
  unfold nof
  split
  · unfold noPush
    split
    · exact enterF Try.func30 (by rfl) (by rfl) args w
    · exact enterF Try.func44 (by rfl) (by rfl) args w
    · exact enterF Try.func57 (by rfl) (by rfl) args w
    · exact enterF Try.func67 (by rfl) (by rfl) args w
    · exact enterF Try.func75 (by rfl) (by rfl) args w
    · exact enterF Try.func89 (by rfl) (by rfl) args w
    · exact enterF Try.func92 (by rfl) (by rfl) args w
    · exact enterF Try.func88 (by rfl) (by rfl) args w
    · exact enterF Try.func74 (by rfl) (by rfl) args w
    · exact enterF Try.func81 (by rfl) (by rfl) args w
  · split
    · unfold noPop
      split
      · exact enterF Try.func31 (by rfl) (by rfl) args w
      · exact enterF Try.func45 (by rfl) (by rfl) args w
      · exact enterF Try.func59 (by rfl) (by rfl) args w
      · exact enterF Try.func70 (by rfl) (by rfl) args w
      · exact enterF Try.func78 (by rfl) (by rfl) args w
      · exact enterF Try.func77 (by rfl) (by rfl) args w
      · exact enterF Try.func84 (by rfl) (by rfl) args w
      · exact enterF Try.func90 (by rfl) (by rfl) args w
      · exact enterF Try.func78 (by rfl) (by rfl) args w
    · unfold noSteal
      split
      · exact enterF Try.func33 (by rfl) (by rfl) args w
      · exact enterF Try.func47 (by rfl) (by rfl) args w
      · exact enterF Try.func60 (by rfl) (by rfl) args w
      · exact enterF Try.func71 (by rfl) (by rfl) args w
      · exact enterF Try.func79 (by rfl) (by rfl) args w
      · exact enterF Try.func87 (by rfl) (by rfl) args w
/-- A handle of an act; a deque. -/
def Hd (H P : Nat) (w : World) : Prop := w.heap[H]? = some (.cells #[.pointer (some ⟨P, 0, none⟩)] 98 (0, 0))
def Dd (D R : Nat) (w : World) : Prop := w.heap[D]? = some (.cells #[.pointer (some ⟨R, 0, none⟩)] 83 (0, 0))
theorem Hd.c0 {H P : Nat} (h : Hd H P w) : w.cell? ⟨H, 0, none⟩ = some (.pointer (some ⟨P, 0, none⟩)) := cell_of_row _ _ 0 _ _ _ h
theorem Dd.c0 {D R : Nat} (h : Dd D R w) : w.cell? ⟨D, 0, none⟩ = some (.pointer (some ⟨R, 0, none⟩)) := cell_of_row _ _ 0 _ _ _ h
end
end Dq
section
variable {K : Nat → Prop} {B M R : Nat} {F : Int} {own : Value} {P H D : Nat} {xs : List Int} {n : Nat} {w : World} {a : Dq.A}
theorem q_is (h : Dq.Hd H P w) : Calls Try.prog 34 #[.pointer (some ⟨H, 0, none⟩)] w fun e w' => e = .returned (.bool true) ∧ w = w' := by
  have c0 := h.c0
  clear h
  go_enter Try.func34, Try.ntmps34
  go_wp2_with fail
  go_ret
  exact ⟨rfl, rfl⟩
theorem q_isD (h : Dq.Dd D R w) : Calls Try.prog 32 #[.pointer (some ⟨D, 0, none⟩)] w fun e w' => e = .returned (.bool true) ∧ w = w' := by
  have c0 := h.c0
  clear h
  go_enter Try.func32, Try.ntmps32
  go_wp2_with fail
  go_ret
  exact ⟨rfl, rfl⟩
/-- An act that is over. -/
theorem q_step_over (h : Dq.Ap K B M R F own P a xs n w) (hh : Dq.Hd H P w) (h0 : a.told ≠ 0) : Calls Try.prog 15 #[.pointer (some ⟨H, 0, none⟩)] w fun e w' => e = .returned (.tuple #[.int .u8 0, .int .i64 0, .int .i64 3]) ∧ w = w' := by
  have HI := Lib.hid (q_is hh)
  have HV := q_over h Dq.cso_at.2.1
  rw [decide_eq_true h0] at HV
  have HO := Lib.hid HV
  have c0 := hh.c0
  clear h hh h0 HV
  go_enter Try.func15, Try.ntmps15
  go_wp2_with fail
  refine HI.out.mono ?_
  rintro e w1 ⟨rfl, rfl⟩
  go_wp2_with fail
  refine HO.out.mono ?_
  rintro e w1 ⟨rfl, rfl⟩
  go_wp2_with fail
  go_ret3
  exact ⟨rfl, rfl⟩
/-- A step that is done. -/
theorem q_step (h : Dq.Ap K B M R F own P a xs n w) (hh : Dq.Hd H P w) (hH : K H ∧ H ≠ P) (h0 : a.told = 0) (ok : Dq.Ok F xs a) (hn : n ≤ 999999999999) (he : (Dq.acts F xs a).2.2.2 = 0) : Calls Try.prog 15 #[.pointer (some ⟨H, 0, none⟩)] w fun e w' =>
    e = .returned (.tuple #[.int .u8 (Dq.acts F xs a).1.told, .int .i64 (Dq.acts F xs a).1.got, .int .i64 0]) ∧ Hid (Dq.Ap K B M R F own P (Dq.acts F xs a).1 (Dq.acts F xs a).2.1 (n + (Dq.acts F xs a).2.2.1) w' ∧ Ce.Kept (fun i => K i ∧ i ≠ P) w w') := by
  have HI := Lib.hid (q_is hh)
  have HV := q_over h Dq.cso_at.2.1
  rw [decide_eq_false (by rw [h0]; decide)] at HV
  have HO := Lib.hid HV
  have HA := Lib.hid (q_act h h0 ok hn)
  have HH := Lib.hid hh
  have HHK := Lib.hid hH
  have c0 := hh.c0
  have c6 := h.c6 h0
  have HE := Lib.hid he
  clear h hh h0 HV ok hn he hH
  generalize Dq.acts F xs a = r at *
  obtain ⟨a', xs', c, er⟩ := r
  have he : er = 0 := HE.out
  subst he
  go_enter Try.func15, Try.ntmps15
  go_wp2_with fail
  refine HI.out.mono ?_
  rintro e w1 ⟨rfl, rfl⟩
  go_wp2_with fail
  refine HO.out.mono ?_
  rintro e w1 ⟨rfl, rfl⟩
  go_wp2_with fail
  rw [Dq.nof_calls]
  go_wp2_with fail
  refine HA.out.mono ?_
  rintro e w2 ⟨rfl, h2, k2⟩
  have d0 : w2.cell? ⟨H, 0, none⟩ = some (.pointer (some ⟨P, 0, none⟩)) := Dq.Hd.c0 (k2.row HH.out HHK.out)
  have d7 : w2.cell? ⟨P, 7, none⟩ = some (.int .u8 a'.told) := h2.c7
  have d8 : w2.cell? ⟨P, 8, none⟩ = some (.int .i64 a'.got) := h2.c8
  have HX : Hid (∀ q, Dq.Ap K B M R F own P a' xs' (n + c) (w2.drewN q) ∧ Ce.Kept (fun i => K i ∧ i ≠ P) w (w2.drewN q)) := fun q => ⟨Dq.Atc.below h2 (Ce.belDN (Below.refl _ _) q), k2.trans (Ce.Kept.of_below (Ce.belDN (Below.refl _ _) q))⟩
  clear h2 k2 c0 c6 HA
  go_wp2_with fail
  go_quiet (fail)
  go_wp2_with fail
  go_ret3
  exact ⟨rfl, Lib.hid (HX.out _)⟩
/-- A step that the memory refuses. -/
theorem q_step_full (h : Dq.Ap K B M R F own P a xs n w) (hh : Dq.Hd H P w) (hH : K H ∧ H ≠ P) (h0 : a.told = 0) (ok : Dq.Ok F xs a) (hn : n ≤ 999999999999) (he : Dq.acts F xs a = (a, xs, 0, 6)) : Calls Try.prog 15 #[.pointer (some ⟨H, 0, none⟩)] w fun e w' =>
    e = .returned (.tuple #[.int .u8 0, .int .i64 0, .int .i64 6]) ∧ Hid (Dq.Ap K B M R F own P a xs n w' ∧ Ce.Kept (fun i => K i ∧ i ≠ P) w w') := by
  have HI := Lib.hid (q_is hh)
  have HV := q_over h Dq.cso_at.2.1
  rw [decide_eq_false (by rw [h0]; decide)] at HV
  have HO := Lib.hid HV
  have HA0 := q_act h h0 ok hn
  rw [he] at HA0
  have HA := Lib.hid HA0
  have c0 := hh.c0
  have c6 := h.c6 h0
  clear h hh h0 HV ok hn he hH HA0
  go_enter Try.func15, Try.ntmps15
  go_wp2_with fail
  refine HI.out.mono ?_
  rintro e w1 ⟨rfl, rfl⟩
  go_wp2_with fail
  refine HO.out.mono ?_
  rintro e w1 ⟨rfl, rfl⟩
  go_wp2_with fail
  rw [Dq.nof_calls]
  go_wp2_with fail
  refine HA.out.mono ?_
  rintro e w2 ⟨rfl, h2, k2⟩
  have HX : Hid (Dq.Ap K B M R F own P a xs n w2 ∧ Ce.Kept (fun i => K i ∧ i ≠ P) w w2) := ⟨h2, k2⟩
  clear h2 k2 c0 c6 HA
  go_wp2_with fail
  go_ret3
  exact ⟨rfl, HX⟩
theorem q_told (h : Dq.Ap K B M R F own P a xs n w) (hh : Dq.Hd H P w) : Calls Try.prog 17 #[.pointer (some ⟨H, 0, none⟩)] w fun e w' =>
    e = .returned (.tuple #[.int .u8 a.told, .int .i64 a.got]) ∧ Below w.heap.size w w' := by
  have HI := Lib.hid (q_is hh)
  have c0 := hh.c0
  have c7 := h.c7
  have c8 := h.c8
  clear h hh
  go_enter Try.func17, Try.ntmps17
  go_wp2_with fail
  refine HI.out.mono ?_
  rintro e w1 ⟨rfl, rfl⟩
  go_wp2_with fail
  go_quiet (fail)
  go_wp2_with fail
  go_ret2
  exact ⟨rfl, Ce.belDN (Below.refl _ _) _⟩
/-- How many values there are. -/
theorem q_size (h : Dq.Dv K B M R F own xs n w) (hd : Dq.Dd D R w) (hb : Dq.Sm (Dq.ld xs (F + 1))) (ht : Dq.Sm (Dq.ld xs F)) : Calls Try.prog 20 #[.pointer (some ⟨D, 0, none⟩)] w fun e w' =>
    e = .returned (.int .i64 (max 0 (Dq.ld xs (F + 1) - Dq.ld xs F))) ∧ Below w.heap.size w w' := by
  have HI := Lib.hid (q_isD hd)
  have c0 := hd.c0
  have r2 := h.cell 2 rfl
  have r3 := h.cell 3 rfl
  have hw : IntKind.i64.wrap (Dq.ld xs (F + 1) - Dq.ld xs F) = Dq.ld xs (F + 1) - Dq.ld xs F := by
    unfold Dq.Sm at hb ht
    rw [IntKind.wrap_i64]; omega
  have HS : Hid (Calls Try.prog 40 #[.pointer (some ⟨R, 0, none⟩)] w fun e w' => e = .returned (.int .i64 (max 0 (Dq.ld xs (F + 1) - Dq.ld xs F))) ∧ Below w.heap.size w w') := by
    clear h hd hb ht HI c0
    generalize Dq.ld xs (F + 1) = b at *
    generalize Dq.ld xs F = t at *
    by_cases hg : ¬ 0 < b - t
    · have hm : max 0 (b - t) = 0 := by omega
      rw [hm]
      go_enter Try.func40, Try.ntmps40
      go_wp2_with fail
      go_region
      all_goals
        go_wp2_with fail
        go_ret
        exact ⟨rfl, by first | exact Ce.belDN (Below.refl _ _) _ | exact (Below.refl _ _).drew⟩
    · have hm : max 0 (b - t) = b - t := by omega
      rw [hm]
      go_enter Try.func40, Try.ntmps40
      go_wp2_with fail
      go_region
      all_goals
        go_wp2_with fail
        go_ret
        exact ⟨rfl, by first | exact Ce.belDN (Below.refl _ _) _ | exact (Below.refl _ _).drew⟩
  clear h hd hb ht
  go_enter Try.func20, Try.ntmps20
  go_wp2_with fail
  refine HI.out.mono ?_
  rintro e w1 ⟨rfl, rfl⟩
  go_wp2_with fail
  refine HS.out.mono ?_
  rintro e w1 ⟨rfl, hb⟩
  go_wp2_with fail
  go_ret
  exact ⟨rfl, hb⟩
end
end Go.Proofs.Ytlgelhkpdldgdaa
