/-
  Layer 16: the program's pops and steals: the steps that do more than read.
-/
import Derived.Test.YtlgelhkpdldgdaaDqE
import Derived.Test.YtlgelhkpdldgdaaDqS
namespace Go.Proofs.Ytlgelhkpdldgdaa
open Go.RowKit
set_option linter.unusedVariables false
set_option linter.unusedSimpArgs false

section
variable {K : Nat → Prop} {B M R : Nat} {F : Int} {own : Value} {P : Nat} {xs : List Int} {n : Nat} {w : World} {a : Dq.A} {nx : Value}
theorem q_last {T : TypeId} {cs : Array Value} (h : Dq.Atc K B M R F own P T cs xs n w) {b : Int} (hc : cs[4]? = some (.int .i64 b)) (hs : Dq.Sm b) : Calls Try.prog 69 #[.pointer (some ⟨P, 0, none⟩)] w fun e w' => e = .returned (.int .i64 (b - 1)) ∧ w = w' := by
  have c4 := h.cell 4 hc
  have hw : IntKind.i64.wrap (b - 1) = b - 1 := by
    unfold Dq.Sm at hs
    rw [IntKind.wrap_i64]; omega
  clear h hs
  go_enter Try.func69, Try.ntmps69
  go_wp2_with fail
  go_ret
  exact ⟨rfl, rfl⟩
theorem s_pop2 (h : Dq.Atc K B M R F own P 101 (Dq.oC R a nx) xs n w) (hb : Dq.Bd F xs n) (hs : Dq.Sm a.b) : Calls Try.prog 59 #[.pointer (some ⟨P, 0, none⟩)] w (Dq.Rdd K B M R F own P 101 (Dq.oC R a (Dq.fv 70 P)) (Dq.up xs (F + 1) (a.b - 1)) (n + 1) w) := by
  have HC := Lib.hid (q_cellU h hb 1 (by omega))
  have HA : Hid (∀ U, Below w.heap.size w U → Calls Try.prog 69 #[.pointer (some ⟨P, 0, none⟩)] U fun e w' => e = .returned (.int .i64 (a.b - 1)) ∧ U = w') := fun U hU => q_last (h.below hU) rfl hs
  have HW := Lib.hid (q_writeU h hb (F + 1) (a.b - 1) (by have := hb.F0; omega) (by have := hb.F3; omega) (Dq.fv 70 P) (Dq.fvOk _ _))
  have hd : Below w.heap.size w w.drew := (Below.refl _ _).drew
  have c4 : w.cell? ⟨P, 4, none⟩ = some (.int .i64 a.b) := h.cell 4 rfl
  clear h hb hs
  unfold Dq.Rdd Dq.fv at HW
  unfold Dq.Rdd
  go_enter Try.func59, Try.ntmps59
  go_wp2_with fail
  go_region_held3 (fun wx => wx.cell? ⟨P, 4, none⟩ = some (.int .i64 a.b)) (first | with_reducible assumption | with_reducible exact CC3.out | exact c4)
    (first
    | (go_at_call 56; refine (HC.out _ hd).mono ?_; rintro e wp ⟨rfl, rfl⟩)
    | (go_at_call 69; refine (HA.out _ hd).mono ?_; rintro e wp ⟨rfl, rfl⟩)
    | (go_at_call 68; refine (HW.out _ hd).mono ?_; rintro e w' ⟨rfl, hh⟩; have CC3 : Hid (w'.cell? ⟨P, 4, none⟩ = some (.int .i64 a.b)) := hh.out.1.cell 4 rfl))
  all_goals
    go_wp2_with fail
    go_ret
    exact ⟨rfl, hh⟩
set_option maxHeartbeats 1000000 in
theorem s_pop3 (h : Dq.Atc K B M R F own P 101 (Dq.oC R a nx) xs n w) (hb : Dq.Bd F xs n) (hs : Dq.Sm a.b) : Calls Try.prog 70 #[.pointer (some ⟨P, 0, none⟩)] w (Dq.Rdd K B M R F own P 101 (Dq.oC R {a with t := Dq.ld xs F} (Dq.fv (if a.b - 1 < Dq.ld xs F then 78 else 77) P)) xs (n + 1) w) := by
  have HR := Lib.hid (q_readTop h hb (Dq.fv 77 P) (Dq.fvOk _ _))
  have HS := Lib.hid hs
  obtain ⟨fq, hf⟩ : ∃ x, x = (if a.b - 1 < Dq.ld xs F then 78 else 77) := ⟨_, rfl⟩
  rw [← hf]
  have HF := Lib.hid hf
  clear h hb hs hf
  unfold Dq.Rdd Dq.fv at HR
  unfold Dq.Rdd
  go_enter Try.func70, Try.ntmps70
  go_wp2_with fail
  refine HR.out.mono ?_
  rintro e w1 ⟨rfl, hh⟩
  have h1 : Dq.Atc K B M R F own P 101 (Dq.oC R {a with t := Dq.ld xs F} (Dq.fv 77 P)) xs (n + 1) w1 := hh.out.1
  have HK : Hid (Ce.Kept (fun i => K i ∧ i ≠ P) w w1) := hh.out.2
  have HA : Hid (∀ q, Calls Try.prog 69 #[.pointer (some ⟨P, 0, none⟩)] (w1.drewN q) fun e w' => e = .returned (.int .i64 (a.b - 1)) ∧ w' = w1.drewN q) := fun q => (q_last (h1.below (Ce.belDN (Below.refl _ _) q)) rfl HS.out).mono fun _ _ h => ⟨h.1, h.2.symm⟩
  have hd : Below w1.heap.size w1 w1.drew := (Below.refl _ _).drew
  have d3 : w1.cell? ⟨P, 3, none⟩ = some (.int .i64 (Dq.ld xs F)) := h1.cell 3 rfl
  have d6 : w1.cell? ⟨P, 6, none⟩ = some (.func (.func 77) #[.pointer (some ⟨P, 0, none⟩)] #[]) := h1.cell 6 rfl
  have f6 := h1.fro 6
  have H1 : Hid (∀ q, Dq.Atc K B M R F own P 101 (Dq.oC R {a with t := Dq.ld xs F} (Dq.fv 77 P)) xs (n + 1) (w1.drewN q) ∧ Ce.Kept (fun i => K i ∧ i ≠ P) w (w1.drewN q)) := fun q => ⟨h1.below (Ce.belDN (Below.refl _ _) q), HK.out.trans (Ce.Kept.of_below (Ce.belDN (Below.refl _ _) q))⟩
  have HG : Hid (∀ q, Dq.Atc K B M R F own P 101 (Dq.oC R {a with t := Dq.ld xs F} (Dq.fv 78 P)) xs (n + 1) ((w1.drewN q).setCell ⟨P, 6, none⟩ (Dq.fv 78 P)) ∧ Ce.Kept (fun i => K i ∧ i ≠ P) w ((w1.drewN q).setCell ⟨P, 6, none⟩ (Dq.fv 78 P))) := fun q => ⟨(h1.below (Ce.belDN (Below.refl _ _) q)).set 6 _ (by decide), (H1.out q).2.trans (Ce.Kept.cell (fun h => h.2 rfl) _ _)⟩
  unfold Dq.fv at HG H1
  clear h1 hh HR HK
  by_cases hg : a.b - 1 < Dq.ld xs F
  · have HGG := Lib.hid hg
    go_wp2_with fail
    go_quiet ((go_at_call 69; exact Calls.quiet_of_same (HA.out _)))
    go_wp2_with fail
    go_ret
    rw [HF.out, if_pos HGG.out]
    exact ⟨rfl, Lib.hid (HG.out _)⟩
  · have HGG := Lib.hid hg
    go_wp2_with fail
    go_quiet ((go_at_call 69; exact Calls.quiet_of_same (HA.out _)))
    go_wp2_with fail
    go_ret
    rw [HF.out, if_neg (by have := HGG.out; omega)]
    exact ⟨rfl, Lib.hid (H1.out _)⟩
theorem q_leaveU {T : TypeId} {cs : Array Value} (h : Dq.Atc K B M R F own P T cs xs n w) (hb : Dq.Bd F xs n) (b came got : Int) : ∀ U, Below w.heap.size w U → Calls Try.prog 85 #[.pointer (some ⟨P, 0, none⟩), .int .i64 b, .int .u8 came, .int .i64 got] U (Dq.Rdd K B M R F own P T ((((cs.setIfInBounds 6 .nilFunc).setIfInBounds 6 .nilFunc).setIfInBounds 7 (.int .u8 came)).setIfInBounds 8 (.int .i64 got)) (Dq.up xs (F + 1) b) (n + 1) w) := fun U hU => (q_leave (h.below hU) hb b came got).mono fun _ _ h => ⟨h.1, h.2.out.1, h.2.out.2.aft hU⟩
theorem s_pop8 (h : Dq.Atc K B M R F own P 101 (Dq.oC R a nx) xs n w) (hb : Dq.Bd F xs n) : Calls Try.prog 78 #[.pointer (some ⟨P, 0, none⟩)] w fun e w' =>
    e = .returned (.int .i64 0) ∧ ((a.i = 1 ∧ Hid (Dq.Atc K B M R F own P 101 (Dq.oC R {a with told := 2, got := a.rd} .nilFunc) (Dq.up xs (F + 1) a.b) (n + 1) w' ∧ Ce.Kept (fun i => K i ∧ i ≠ P) w w')) ∨ (¬ a.i = 1 ∧ Hid (Dq.Atc K B M R F own P 101 (Dq.oC R {a with told := 3, got := 0} .nilFunc) (Dq.up xs (F + 1) a.b) (n + 1) w' ∧ Ce.Kept (fun i => K i ∧ i ≠ P) w w'))) := by
  have hd : Below w.heap.size w w.drew := (Below.refl _ _).drew
  have c4 : w.cell? ⟨P, 4, none⟩ = some (.int .i64 a.b) := h.cell 4 rfl
  have c5 : w.cell? ⟨P, 5, none⟩ = some (.int .i64 a.rd) := h.cell 5 rfl
  have c9 : w.cell? ⟨P, 9, none⟩ = some (.bool (decide (a.i = 1))) := h.cell 9 rfl
  by_cases hi : a.i = 1
  · have HI := Lib.hid hi
    rw [decide_eq_true hi] at c9
    have HL : Hid (∀ U, Below w.heap.size w U → Calls Try.prog 85 #[.pointer (some ⟨P, 0, none⟩), .int .i64 a.b, .int .u8 2, .int .i64 a.rd] U (Dq.Rdd K B M R F own P 101 (Dq.oC R {a with told := 2, got := a.rd} .nilFunc) (Dq.up xs (F + 1) a.b) (n + 1) w)) := q_leaveU h hb a.b 2 a.rd
    have CC0 : Hid (w.cell? ⟨P, 4, none⟩ = some (.int .i64 a.b) ∧ w.cell? ⟨P, 5, none⟩ = some (.int .i64 a.rd)) := ⟨c4, c5⟩
    clear h hb hi c4 c5
    unfold Dq.Rdd at HL
    go_enter Try.func78, Try.ntmps78
    go_wp2_with fail
    go_region_held3 (fun wx => wx.cell? ⟨P, 4, none⟩ = some (.int .i64 a.b) ∧ wx.cell? ⟨P, 5, none⟩ = some (.int .i64 a.rd)) (first | with_reducible assumption | with_reducible exact CC0.out | with_reducible exact CC3.out | exact CC0.out)
      (first | (go_at_call 85; refine (HL.out _ hd).mono ?_; rintro e w' ⟨rfl, hh⟩; have CC3 : Hid (w'.cell? ⟨P, 4, none⟩ = some (.int .i64 a.b) ∧ w'.cell? ⟨P, 5, none⟩ = some (.int .i64 a.rd)) := ⟨hh.out.1.cell 4 rfl, hh.out.1.cell 5 rfl⟩))
    all_goals
      go_wp2_with fail
      go_ret
      exact ⟨rfl, .inl ⟨HI.out, hh⟩⟩
  · have HI : Hid (¬ a.i = 1) := hi
    rw [decide_eq_false hi] at c9
    have HL : Hid (∀ U, Below w.heap.size w U → Calls Try.prog 85 #[.pointer (some ⟨P, 0, none⟩), .int .i64 a.b, .int .u8 3, .int .i64 0] U (Dq.Rdd K B M R F own P 101 (Dq.oC R {a with told := 3, got := 0} .nilFunc) (Dq.up xs (F + 1) a.b) (n + 1) w)) := q_leaveU h hb a.b 3 0
    clear h hb hi
    unfold Dq.Rdd at HL
    go_enter Try.func78, Try.ntmps78
    go_wp2_with fail
    go_region_with (go_at_call 85; refine (HL.out _ hd).mono ?_; rintro e w' ⟨rfl, hh⟩)
    all_goals
      go_wp2_with fail
      go_ret
      exact ⟨rfl, .inr ⟨HI.out, hh⟩⟩
set_option maxHeartbeats 1000000 in
theorem s_pop7 (h : Dq.Atc K B M R F own P 101 (Dq.oC R a nx) xs n w) (hb : Dq.Bd F xs n) (ht : Dq.Sm a.t) (hi : a.i = 0) : Calls Try.prog 90 #[.pointer (some ⟨P, 0, none⟩)] w fun e w' =>
    e = .returned (.int .i64 0) ∧ ((Dq.ld xs F = a.t ∧ Hid (Dq.Atc K B M R F own P 101 (Dq.oC R {a with i := 1} (Dq.fv 78 P)) (Dq.up xs F (a.t + 1)) (n + 1) w' ∧ Ce.Kept (fun i => K i ∧ i ≠ P) w w')) ∨ (¬ Dq.ld xs F = a.t ∧ Hid (Dq.Atc K B M R F own P 101 (Dq.oC R a (Dq.fv 78 P)) xs (n + 1) w' ∧ Ce.Kept (fun i => K i ∧ i ≠ P) w w'))) := by
  have HT := Lib.hid (q_take h hb rfl ht)
  have HI := Lib.hid hi
  obtain ⟨v, hv⟩ : ∃ v, v = Dq.ld xs F := ⟨_, rfl⟩
  rw [← hv] at HT ⊢
  clear h hb ht hi hv
  go_enter Try.func90, Try.ntmps90
  go_wp2_with fail
  refine HT.out.mono ?_
  rintro e w1 ⟨rfl, hh⟩
  have HK : Hid (Ce.Kept (fun i => K i ∧ i ≠ P) w w1) := hh.out.2.mono fun i _ h => h.1
  have d9 : w1.cell? ⟨P, 9, none⟩ = some (.bool (decide (a.i = 1))) := hh.out.1.cell 9 rfl
  have d6 : w1.cell? ⟨P, 6, none⟩ = some nx := hh.out.1.cell 6 rfl
  have f6 := hh.out.1.fro 6
  have f9 := hh.out.1.fro 9
  by_cases hg : v = a.t
  · have HGG := Lib.hid hg
    have hz : decide (v = a.t) = true := decide_eq_true hg
    have h1 := hh.out.1
    rw [if_pos hg] at h1
    have HX : Hid (Dq.Atc K B M R F own P 101 (Dq.oC R {a with i := 1} (Dq.fv 78 P)) (Dq.up xs F (a.t + 1)) (n + 1) ((w1.setCell ⟨P, 9, none⟩ (.bool true)).setCell ⟨P, 6, none⟩ (Dq.fv 78 P))) := (h1.set 9 (.bool true) (by decide)).set 6 (Dq.fv 78 P) (by decide)
    unfold Dq.fv at HX
    rw [hz]
    clear h1 hh HT hg hz
    go_wp2_with fail
    go_ret
    exact ⟨rfl, .inl ⟨HGG.out, HX.out, HK.out.trans ((Ce.Kept.cell (fun h => h.2 rfl) _ _).trans (Ce.Kept.cell (fun h => h.2 rfl) _ _))⟩⟩
  · have HGG : Hid (¬ v = a.t) := hg
    have hz : decide (v = a.t) = false := decide_eq_false hg
    have h1 := hh.out.1
    rw [if_neg hg] at h1
    have HX : Hid (Dq.Atc K B M R F own P 101 (Dq.oC R a (Dq.fv 78 P)) xs (n + 1) ((w1.setCell ⟨P, 9, none⟩ (.bool false)).setCell ⟨P, 6, none⟩ (Dq.fv 78 P))) := by
      have e : Dq.oC R a (Dq.fv 78 P) = (((Dq.oC R a nx).setIfInBounds 9 (.bool false)).setIfInBounds 6 (Dq.fv 78 P)) := by
        unfold Dq.oC
        rw [decide_eq_false (by rw [HI.out]; decide)]
        rfl
      rw [e]
      exact (h1.set 9 (.bool false) (by decide)).set 6 (Dq.fv 78 P) (by decide)
    unfold Dq.fv at HX
    rw [hz]
    clear h1 hh HT hg hz
    go_wp2_with fail
    go_ret
    exact ⟨rfl, .inr ⟨HGG.out, HX.out, HK.out.trans ((Ce.Kept.cell (fun h => h.2 rfl) _ _).trans (Ce.Kept.cell (fun h => h.2 rfl) _ _))⟩⟩
end
end Go.Proofs.Ytlgelhkpdldgdaa
