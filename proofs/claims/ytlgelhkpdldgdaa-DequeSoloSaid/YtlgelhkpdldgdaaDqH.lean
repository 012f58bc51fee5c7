/-
  Layer 16: the program's pops and steals: what ends them.
-/
import Derived.Test.YtlgelhkpdldgdaaDqF
namespace Go.Proofs.Ytlgelhkpdldgdaa
open Go.RowKit
set_option linter.unusedVariables false
set_option linter.unusedSimpArgs false

section
variable {K : Nat → Prop} {B M R : Nat} {F : Int} {own : Value} {P : Nat} {xs : List Int} {n : Nat} {w : World} {a : Dq.A} {nx : Value}
theorem q_endU {T : TypeId} {cs : Array Value} (h : Dq.Atc K B M R F own P T cs xs n w) (came got : Int) : ∀ U, Below w.heap.size w U → Calls Try.prog 61 #[.pointer (some ⟨P, 0, none⟩), .int .u8 came, .int .i64 got] U fun e w' =>
    e = .returned (.tuple #[]) ∧ Hid (Dq.Atc K B M R F own P T (((cs.setIfInBounds 6 .nilFunc).setIfInBounds 7 (.int .u8 came)).setIfInBounds 8 (.int .i64 got)) xs n w' ∧ Ce.Kept (fun i => K i ∧ i ≠ P) w w') := fun U hU => (q_end (h.below hU) came got).mono fun _ _ h => ⟨h.1, h.2.1, h.2.2.aft hU⟩
set_option maxHeartbeats 1000000 in
theorem s_pop6 (h : Dq.Atc K B M R F own P 101 (Dq.oC R a nx) xs n w) (hb : Dq.Bd F xs n) (hs : Dq.Sm a.b) (h0 : Dq.RowOk xs a.w a.n) (h1 : 1 ≤ a.b) (Q : Ending → World → Prop)
    (h5 : a.t < a.b - 1 → ∀ w', Dq.Atc K B M R F own P 101 (Dq.oC R {a with rd := Dq.ld xs (Dq.pl a.w a.n (a.b - 1)), told := 2, got := Dq.ld xs (Dq.pl a.w a.n (a.b - 1))} .nilFunc) xs (n + 1) w' → Ce.Kept (fun i => K i ∧ i ≠ P) w w' → Q (.returned (.int .i64 0)) w')
    (h6 : ¬ a.t < a.b - 1 → ∀ w', Dq.Atc K B M R F own P 101 (Dq.oC R {a with rd := Dq.ld xs (Dq.pl a.w a.n (a.b - 1))} (Dq.fv 90 P)) xs (n + 1) w' → Ce.Kept (fun i => K i ∧ i ≠ P) w w' → Q (.returned (.int .i64 0)) w') : Calls Try.prog 84 #[.pointer (some ⟨P, 0, none⟩)] w Q := by
  have HQ1 := Lib.hid h5
  have HQ2 := Lib.hid h6
  clear h5 h6
  have HA : Hid (∀ U, Below w.heap.size w U → Calls Try.prog 69 #[.pointer (some ⟨P, 0, none⟩)] U fun e w' => e = .returned (.int .i64 (a.b - 1)) ∧ U = w') := fun U hU => q_last (h.below hU) rfl hs
  have HR : Hid (∀ U, Below w.heap.size w U → Calls Try.prog 86 #[.pointer (some ⟨P, 0, none⟩), .int .i64 (a.b - 1), .func (.func 90) #[.pointer (some ⟨P, 0, none⟩)] #[]] U (Dq.Rdd K B M R F own P 101 (Dq.oC R {a with rd := Dq.ld xs (Dq.pl a.w a.n (a.b - 1))} (Dq.fv 90 P)) xs (n + 1) w)) := fun U hU => (q_readPlace (h.below hU) hb (Dq.fv 90 P) (Dq.fvOk _ _) rfl rfl h0 (a.b - 1) (by unfold Dq.Sm at hs; omega)).mono fun _ _ h => ⟨h.1, h.2.out.1, h.2.out.2.aft hU⟩
  have HS := Lib.hid hs
  have hd : Below w.heap.size w w.drew := (Below.refl _ _).drew
  obtain ⟨v, hv⟩ : ∃ v, v = Dq.ld xs (Dq.pl a.w a.n (a.b - 1)) := ⟨_, rfl⟩
  rw [← hv] at HR HQ1 HQ2
  clear h hb hs h0 h1 hv
  unfold Dq.Rdd at HR
  go_enter Try.func84, Try.ntmps84
  go_wp2_with fail
  go_region_with (first
    | (go_at_call 69; refine (HA.out _ hd).mono ?_; rintro e wp ⟨rfl, rfl⟩)
    | (go_at_call 86; refine (HR.out _ hd).mono ?_; rintro e w1 ⟨rfl, hh⟩))
  all_goals
    have h1 := hh.out.1
    have HK : Hid (Ce.Kept (fun i => K i ∧ i ≠ P) w w1) := hh.out.2
    have HA1 : Hid (∀ q, Calls Try.prog 69 #[.pointer (some ⟨P, 0, none⟩)] (w1.drewN q) fun e w' => e = .returned (.int .i64 (a.b - 1)) ∧ w' = w1.drewN q) := fun q => (q_last (h1.below (Ce.belDN (Below.refl _ _) q)) rfl HS.out).mono fun _ _ h => ⟨h.1, h.2.symm⟩
    have HD : Hid (∀ q, Below w1.heap.size w1 (w1.drewN q).drew) := fun q => (Ce.belDN (Below.refl _ _) q).drew
    have d3 : w1.cell? ⟨P, 3, none⟩ = some (.int .i64 a.t) := h1.cell 3 rfl
    have d5 : w1.cell? ⟨P, 5, none⟩ = some (.int .i64 v) := h1.cell 5 rfl
    have H1 : Hid (∀ q, Dq.Atc K B M R F own P 101 (Dq.oC R {a with rd := v} (Dq.fv 90 P)) xs (n + 1) (w1.drewN q) ∧ Ce.Kept (fun i => K i ∧ i ≠ P) w (w1.drewN q)) := fun q => ⟨h1.below (Ce.belDN (Below.refl _ _) q), HK.out.trans (Ce.Kept.of_below (Ce.belDN (Below.refl _ _) q))⟩
    have HE : Hid (∀ U, Below w1.heap.size w1 U → Calls Try.prog 61 #[.pointer (some ⟨P, 0, none⟩), .int .u8 2, .int .i64 v] U fun e w' =>
      e = .returned (.tuple #[]) ∧ Hid (Dq.Atc K B M R F own P 101 (Dq.oC R {a with rd := v, told := 2, got := v} .nilFunc) xs (n + 1) w' ∧ Ce.Kept (fun i => K i ∧ i ≠ P) w1 w')) := q_endU h1 2 v
    clear h1 hh
    by_cases hg : a.t < a.b - 1
    · have HGG := Lib.hid hg
      go_wp2_with fail
      go_quiet ((go_at_call 69; exact Calls.quiet_of_same (HA1.out _)))
      go_wp2_with fail
      go_region_with (go_at_call 61; refine (HE.out _ (HD.out _)).mono ?_; rintro e w5 ⟨rfl, h5⟩)
      all_goals
        go_wp2_with fail
        exact HQ1.out HGG.out _ h5.out.1 (HK.out.trans h5.out.2)
    · have HGG : Hid (¬ a.t < a.b - 1) := hg
      go_wp2_with fail
      go_quiet ((go_at_call 69; exact Calls.quiet_of_same (HA1.out _)))
      go_wp2_with fail
      exact HQ2.out (by have := HGG.out; omega) _ (H1.out _).1 (H1.out _).2
set_option maxHeartbeats 1000000 in
theorem s_steal1 (h : Dq.Atc K B M R F own P 104 (Dq.tC R a nx) xs n w) (hb : Dq.Bd F xs n) (Q : Ending → World → Prop)
    (h5 : Dq.ld xs (F + 1) ≤ a.t → ∀ w', Dq.Atc K B M R F own P 104 (Dq.tC R {a with b := Dq.ld xs (F + 1), told := 3, got := 0} .nilFunc) xs (n + 1) w' → Ce.Kept (fun i => K i ∧ i ≠ P) w w' → Q (.returned (.int .i64 0)) w')
    (h6 : ¬ Dq.ld xs (F + 1) ≤ a.t → ∀ w', Dq.Atc K B M R F own P 104 (Dq.tC R {a with b := Dq.ld xs (F + 1)} (Dq.fv 60 P)) xs (n + 1) w' → Ce.Kept (fun i => K i ∧ i ≠ P) w w' → Q (.returned (.int .i64 0)) w') : Calls Try.prog 47 #[.pointer (some ⟨P, 0, none⟩)] w Q := by
  have HQ1 := Lib.hid h5
  have HQ2 := Lib.hid h6
  clear h5 h6
  have HR := Lib.hid (q_readBottomR h hb (Dq.fv 60 P) (Dq.fvOk _ _))
  obtain ⟨v, hv⟩ : ∃ v, v = Dq.ld xs (F + 1) := ⟨_, rfl⟩
  rw [← hv] at HR HQ1 HQ2
  clear h hb hv
  unfold Dq.Rdd Dq.fv at HR
  go_enter Try.func47, Try.ntmps47
  go_wp2_with fail
  refine HR.out.mono ?_
  rintro e w1 ⟨rfl, hh⟩
  have h1 := hh.out.1
  have HK : Hid (Ce.Kept (fun i => K i ∧ i ≠ P) w w1) := hh.out.2
  have d3 : w1.cell? ⟨P, 3, none⟩ = some (.int .i64 a.t) := h1.cell 3 rfl
  have d4 : w1.cell? ⟨P, 4, none⟩ = some (.int .i64 v) := h1.cell 4 rfl
  have H1 : Hid (∀ q, Dq.Atc K B M R F own P 104 (Dq.tC R {a with b := v} (Dq.fv 60 P)) xs (n + 1) (w1.drewN q) ∧ Ce.Kept (fun i => K i ∧ i ≠ P) w (w1.drewN q)) := fun q => ⟨h1.below (Ce.belDN (Below.refl _ _) q), HK.out.trans (Ce.Kept.of_below (Ce.belDN (Below.refl _ _) q))⟩
  have HE : Hid (∀ q, Calls Try.prog 61 #[.pointer (some ⟨P, 0, none⟩), .int .u8 3, .int .i64 0] (w1.drewN q) fun e w' =>
    e = .returned (.tuple #[]) ∧ Hid (Dq.Atc K B M R F own P 104 (Dq.tC R {a with b := v, told := 3, got := 0} .nilFunc) xs (n + 1) w' ∧ Ce.Kept (fun i => K i ∧ i ≠ P) w1 w')) := fun q => q_endU h1 3 0 _ (Ce.belDN (Below.refl _ _) q)
  clear h1 hh HR
  by_cases hg : v ≤ a.t
  · have HGG := Lib.hid hg
    go_wp2_with fail
    go_quiet (fail)
    go_wp2_with fail
    refine (HE.out _).mono ?_
    rintro e w5 ⟨rfl, h5⟩
    go_wp2_with fail
    exact HQ1.out HGG.out _ h5.out.1 (HK.out.trans h5.out.2)
  · have HGG : Hid (¬ v ≤ a.t) := hg
    go_wp2_with fail
    go_quiet (fail)
    go_wp2_with fail
    exact HQ2.out (by have := HGG.out; omega) _ (H1.out _).1 (H1.out _).2
theorem s_steal4 (h : Dq.Atc K B M R F own P 104 (Dq.tC R a nx) xs n w) (hb : Dq.Bd F xs n) (h0 : Dq.RowOk xs a.w a.n) (hi : 0 ≤ a.t ∧ a.t ≤ 1000000) : Calls Try.prog 79 #[.pointer (some ⟨P, 0, none⟩)] w (Dq.Rdd K B M R F own P 104 (Dq.tC R {a with rd := Dq.ld xs (Dq.pl a.w a.n a.t)} (Dq.fv 87 P)) xs (n + 1) w) := by
  have HR : Hid (∀ U, Below w.heap.size w U → Calls Try.prog 86 #[.pointer (some ⟨P, 0, none⟩), .int .i64 a.t, .func (.func 87) #[.pointer (some ⟨P, 0, none⟩)] #[]] U (Dq.Rdd K B M R F own P 104 (Dq.tC R {a with rd := Dq.ld xs (Dq.pl a.w a.n a.t)} (Dq.fv 87 P)) xs (n + 1) w)) := fun U hU => (q_readPlace (h.below hU) hb (Dq.fv 87 P) (Dq.fvOk _ _) rfl rfl h0 a.t hi).mono fun _ _ h => ⟨h.1, h.2.out.1, h.2.out.2.aft hU⟩
  have hd : Below w.heap.size w w.drew := (Below.refl _ _).drew
  have c3 : w.cell? ⟨P, 3, none⟩ = some (.int .i64 a.t) := h.cell 3 rfl
  clear h hb h0 hi
  unfold Dq.Rdd at HR ⊢
  go_enter Try.func79, Try.ntmps79
  go_wp2_with fail
  go_region_with (go_at_call 86; refine (HR.out _ hd).mono ?_; rintro e w' ⟨rfl, hh⟩)
  all_goals
    go_wp2_with fail
    go_ret
    exact ⟨rfl, hh⟩
set_option maxHeartbeats 1000000 in
theorem s_steal5 (h : Dq.Atc K B M R F own P 104 (Dq.tC R a nx) xs n w) (hb : Dq.Bd F xs n) (ht : Dq.Sm a.t) (Q : Ending → World → Prop)
    (h5 : Dq.ld xs F = a.t → ∀ w', Dq.Atc K B M R F own P 104 (Dq.tC R {a with told := 2, got := a.rd} .nilFunc) (Dq.up xs F (a.t + 1)) (n + 1) w' → Ce.Kept (fun i => K i ∧ i ≠ P) w w' → Q (.returned (.int .i64 0)) w')
    (h6 : ¬ Dq.ld xs F = a.t → ∀ w', Dq.Atc K B M R F own P 104 (Dq.tC R {a with told := 4, got := 0} .nilFunc) xs (n + 1) w' → Ce.Kept (fun i => K i ∧ i ≠ P) w w' → Q (.returned (.int .i64 0)) w') : Calls Try.prog 87 #[.pointer (some ⟨P, 0, none⟩)] w Q := by
  have HQ1 := Lib.hid h5
  have HQ2 := Lib.hid h6
  clear h5 h6
  have HT := Lib.hid (q_take h hb rfl ht)
  obtain ⟨v, hv⟩ : ∃ v, v = Dq.ld xs F := ⟨_, rfl⟩
  rw [← hv] at HT HQ1 HQ2
  clear h hb ht hv
  go_enter Try.func87, Try.ntmps87
  go_wp2_with fail
  refine HT.out.mono ?_
  rintro e w1 ⟨rfl, hh⟩
  have HK : Hid (Ce.Kept (fun i => K i ∧ i ≠ P) w w1) := hh.out.2.mono fun i _ h => h.1
  have d5 : w1.cell? ⟨P, 5, none⟩ = some (.int .i64 a.rd) := hh.out.1.cell 5 rfl
  have hd1 : Below w1.heap.size w1 w1.drew := (Below.refl _ _).drew
  by_cases hg : v = a.t
  · have HGG := Lib.hid hg
    have hz : decide (v = a.t) = true := decide_eq_true hg
    have h1 := hh.out.1
    rw [if_pos hg] at h1
    have HE : Hid (∀ U, Below w1.heap.size w1 U → Calls Try.prog 61 #[.pointer (some ⟨P, 0, none⟩), .int .u8 2, .int .i64 a.rd] U fun e w' =>
      e = .returned (.tuple #[]) ∧ Hid (Dq.Atc K B M R F own P 104 (Dq.tC R {a with told := 2, got := a.rd} .nilFunc) (Dq.up xs F (a.t + 1)) (n + 1) w' ∧ Ce.Kept (fun i => K i ∧ i ≠ P) w1 w')) := q_endU h1 2 a.rd
    rw [hz]
    clear h1 hh HT hg hz
    go_wp2_with fail
    go_region_with (go_at_call 61; refine (HE.out _ hd1).mono ?_; rintro e w5 ⟨rfl, h5⟩)
    all_goals
      go_wp2_with fail
      exact HQ1.out HGG.out _ h5.out.1 (HK.out.trans h5.out.2)
  · have HGG : Hid (¬ v = a.t) := hg
    have hz : decide (v = a.t) = false := decide_eq_false hg
    have h1 := hh.out.1
    rw [if_neg hg] at h1
    have HE : Hid (Calls Try.prog 61 #[.pointer (some ⟨P, 0, none⟩), .int .u8 4, .int .i64 0] w1 fun e w' =>
      e = .returned (.tuple #[]) ∧ Hid (Dq.Atc K B M R F own P 104 (Dq.tC R {a with told := 4, got := 0} .nilFunc) xs (n + 1) w' ∧ Ce.Kept (fun i => K i ∧ i ≠ P) w1 w')) := q_endU h1 4 0 _ (Below.refl _ _)
    rw [hz]
    clear h1 hh HT hg hz
    go_wp2_with fail
    refine HE.out.mono ?_
    rintro e w5 ⟨rfl, h5⟩
    go_wp2_with fail
    exact HQ2.out HGG.out _ h5.out.1 (HK.out.trans h5.out.2)
end
end Go.Proofs.Ytlgelhkpdldgdaa
