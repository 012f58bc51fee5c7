/-
  Layer 16: the program's pushes: where they grow.
-/
import Derived.Test.YtlgelhkpdldgdaaDqE
namespace Go.Proofs.Ytlgelhkpdldgdaa
open Go.RowKit
set_option linter.unusedVariables false
set_option linter.unusedSimpArgs false

section
variable {K : Nat → Prop} {B M R : Nat} {F : Int} {own : Value} {P : Nat} {xs : List Int} {n : Nat} {w : World} {a : Dq.A} {nx : Value}
/-- What is copied next. -/
theorem q_further (h : Dq.Atc K B M R F own P 96 (Dq.pC R a nx) xs n w) : Calls Try.prog 82 #[.pointer (some ⟨P, 0, none⟩)] w fun e w' =>
    e = .returned (.tuple #[]) ∧ Hid (Dq.Atc K B M R F own P 96 (Dq.pC R a (Dq.fv (if a.i < a.b then 89 else 88) P)) xs n w' ∧ Ce.Kept (fun i => K i ∧ i ≠ P) w w') := by
  have c4 : w.cell? ⟨P, 4, none⟩ = some (.int .i64 a.b) := h.cell 4 rfl
  have c12 : w.cell? ⟨P, 12, none⟩ = some (.int .i64 a.i) := h.cell 12 rfl
  have c6 : w.cell? ⟨P, 6, none⟩ = some nx := h.cell 6 rfl
  have f6 := h.fro 6
  have hP := Gm.ltHeap h.act
  have H1 : Hid (∀ q, Dq.Atc K B M R F own P 96 (Dq.pC R a (Dq.fv 88 P)) xs n ((w.setCell ⟨P, 6, none⟩ (Dq.fv 88 P)).drewN q)) := fun q => (h.set 6 (Dq.fv 88 P) (by decide)).below (Ce.belDN (Below.refl _ _) q)
  have H2 : Hid (∀ q, Dq.Atc K B M R F own P 96 (Dq.pC R a (Dq.fv 89 P)) xs n (((w.setCell ⟨P, 6, none⟩ (Dq.fv 88 P)).drewN q).setCell ⟨P, 6, none⟩ (Dq.fv 89 P))) := fun q => (H1.out q).set 6 _ (by decide)
  have HK : Hid (∀ q, Ce.Kept (fun i => K i ∧ i ≠ P) w ((w.setCell ⟨P, 6, none⟩ (Dq.fv 88 P)).drewN q)) := fun q => (Ce.Kept.cell (fun h => h.2 rfl) _ _).trans (Ce.Kept.of_below (Ce.belDN (Below.refl _ _) q))
  obtain ⟨fq, hf⟩ : ∃ x, x = (if a.i < a.b then 89 else 88) := ⟨_, rfl⟩
  rw [← hf]
  have HF := Lib.hid hf
  unfold Dq.fv at H1 H2 HK
  unfold Dq.fv
  clear h hf
  by_cases hg : a.i < a.b
  · have HGG := Lib.hid hg
    go_enter Try.func82, Try.ntmps82
    go_wp2_with fail
    go_quiet (fail)
    go_wp2_with fail
    go_end0
    rw [HF.out, if_pos HGG.out]
    exact ⟨rfl, Lib.hid ⟨H2.out _, (HK.out _).trans (Ce.Kept.cell (fun h => h.2 rfl) _ _)⟩⟩
  · have HGG := Lib.hid hg
    go_enter Try.func82, Try.ntmps82
    go_wp2_with fail
    go_quiet (fail)
    go_wp2_with fail
    go_end0
    rw [HF.out, if_neg (by have := HGG.out; omega)]
    exact ⟨rfl, Lib.hid ⟨H1.out _, HK.out _⟩⟩
set_option maxHeartbeats 1000000 in
theorem s_push12 (h : Dq.Atc K B M R F own P 96 (Dq.pC R a nx) xs n w) (hb : Dq.Bd F xs n) (h0 : Dq.RowOk xs a.nw a.nc) (hi : 0 ≤ a.i ∧ a.i ≤ 1000000) : Calls Try.prog 92 #[.pointer (some ⟨P, 0, none⟩)] w (Dq.Rdd K B M R F own P 96 (Dq.pC R {a with i := a.i + 1} (Dq.fv (if a.i + 1 < a.b then 89 else 88) P)) (Dq.up xs (Dq.pl a.nw a.nc a.i) a.rd) (n + 1) w) := by
  have hp := h0.place a.i
  have HP := Lib.hid (q_placeU h hb h0 a.i hi)
  have HW := Lib.hid (q_writeU h hb (Dq.pl a.nw a.nc a.i) a.rd hp.1 hp.2 .nilFunc (.inl rfl))
  have hd : Below w.heap.size w w.drew := (Below.refl _ _).drew
  have CC0 : Hid (w.cell? ⟨P, 10, none⟩ = some (.int .i64 a.nw) ∧ w.cell? ⟨P, 11, none⟩ = some (.int .i64 a.nc) ∧ w.cell? ⟨P, 12, none⟩ = some (.int .i64 a.i) ∧ w.cell? ⟨P, 5, none⟩ = some (.int .i64 a.rd)) := ⟨h.cell 10 rfl, h.cell 11 rfl, h.cell 12 rfl, h.cell 5 rfl⟩
  have hw : IntKind.i64.wrap (a.i + 1) = a.i + 1 := by rw [IntKind.wrap_i64]; omega
  obtain ⟨fq, hf⟩ : ∃ x, x = (if a.i + 1 < a.b then 89 else 88) := ⟨_, rfl⟩
  rw [← hf]
  have HF := Lib.hid hf
  clear h hb h0 hi hp hf
  unfold Dq.Rdd at HW
  unfold Dq.Rdd
  go_enter Try.func92, Try.ntmps92
  go_wp2_with fail
  go_region_held3 (fun wx => wx.cell? ⟨P, 10, none⟩ = some (.int .i64 a.nw) ∧ wx.cell? ⟨P, 11, none⟩ = some (.int .i64 a.nc) ∧ wx.cell? ⟨P, 12, none⟩ = some (.int .i64 a.i) ∧ wx.cell? ⟨P, 5, none⟩ = some (.int .i64 a.rd)) (first | with_reducible assumption | with_reducible exact CC0.out | with_reducible exact CC2.out | with_reducible exact CC3.out | exact CC0.out)
    (first
    | (go_at_call 80; refine (HP.out _ hd).mono ?_; rintro e wp ⟨rfl, hd2, hc⟩; have CC2 : Hid (wp.cell? ⟨P, 10, none⟩ = some (.int .i64 a.nw) ∧ wp.cell? ⟨P, 11, none⟩ = some (.int .i64 a.nc) ∧ wp.cell? ⟨P, 12, none⟩ = some (.int .i64 a.i) ∧ wp.cell? ⟨P, 5, none⟩ = some (.int .i64 a.rd)) := ⟨hc 10 _ rfl, hc 11 _ rfl, hc 12 _ rfl, hc 5 _ rfl⟩; clear hc)
    | (go_at_call 68; refine (HW.out _ (by assumption)).mono ?_; rintro e w' ⟨rfl, hh⟩; have CC3 : Hid (w'.cell? ⟨P, 10, none⟩ = some (.int .i64 a.nw) ∧ w'.cell? ⟨P, 11, none⟩ = some (.int .i64 a.nc) ∧ w'.cell? ⟨P, 12, none⟩ = some (.int .i64 a.i) ∧ w'.cell? ⟨P, 5, none⟩ = some (.int .i64 a.rd)) := ⟨hh.out.1.cell 10 rfl, hh.out.1.cell 11 rfl, hh.out.1.cell 12 rfl, hh.out.1.cell 5 rfl⟩))
  all_goals
    have c12 := CC3.out.2.2.1
    have f12 := hh.out.1.fro 12
    have h2 : Dq.Atc K B M R F own P 96 (Dq.pC R {a with i := a.i + 1} .nilFunc) (Dq.up xs (Dq.pl a.nw a.nc a.i) a.rd) (n + 1) (w'.setCell ⟨P, 12, none⟩ (.int .i64 (a.i + 1))) := hh.out.1.set 12 (.int .i64 (a.i + 1)) (by decide)
    have HFU := Lib.hid (q_further h2)
    have HK : Hid (Ce.Kept (fun i => K i ∧ i ≠ P) w (w'.setCell ⟨P, 12, none⟩ (.int .i64 (a.i + 1)))) := hh.out.2.trans (Ce.Kept.cell (fun h => h.2 rfl) _ _)
    clear h2 hh CC3
    go_wp2_with fail
    refine HFU.out.mono ?_
    rintro e w5 ⟨rfl, h5⟩
    have H5 : Hid (Dq.Atc K B M R F own P 96 (Dq.pC R {a with i := a.i + 1} (Dq.fv fq P)) (Dq.up xs (Dq.pl a.nw a.nc a.i) a.rd) (n + 1) w5 ∧ Ce.Kept (fun i => K i ∧ i ≠ P) w w5) := ⟨by rw [HF.out]; exact h5.out.1, HK.out.trans h5.out.2⟩
    clear h5
    go_wp2_with fail
    go_ret
    exact ⟨rfl, H5⟩
set_option maxHeartbeats 1000000 in
theorem s_push13 (h : Dq.Atc K B M R F own P 96 (Dq.pC R a nx) xs n w) (hb : Dq.Bd F xs n) : Calls Try.prog 88 #[.pointer (some ⟨P, 0, none⟩)] w (Dq.Rdd K B M R F own P 96 (Dq.pC R {a with w := a.nw, n := a.nc} (Dq.fv 74 P)) (Dq.up xs (F + 2) a.nw) (n + 1) w) := by
  have HC := Lib.hid (q_cellU h hb 2 (by omega))
  have HW := Lib.hid (q_writeU h hb (F + 2) a.nw (by have := hb.F0; omega) (by have := hb.F3; omega) (Dq.fv 74 P) (Dq.fvOk _ _))
  have hd : Below w.heap.size w w.drew := (Below.refl _ _).drew
  have c10 : w.cell? ⟨P, 10, none⟩ = some (.int .i64 a.nw) := h.cell 10 rfl
  clear h hb
  unfold Dq.Rdd Dq.fv at HW
  unfold Dq.Rdd
  go_enter Try.func88, Try.ntmps88
  go_wp2_with fail
  go_region_held3 (fun wx => wx.cell? ⟨P, 10, none⟩ = some (.int .i64 a.nw)) (first | with_reducible assumption | with_reducible exact CC3.out | exact c10)
    (first
    | (go_at_call 56; refine (HC.out _ hd).mono ?_; rintro e wp ⟨rfl, rfl⟩)
    | (go_at_call 68; refine (HW.out _ hd).mono ?_; rintro e w' ⟨rfl, hh⟩; have CC3 : Hid (w'.cell? ⟨P, 10, none⟩ = some (.int .i64 a.nw)) := hh.out.1.cell 10 rfl))
  all_goals
    have d10 := CC3.out
    have d11 : w'.cell? ⟨P, 11, none⟩ = some (.int .i64 a.nc) := hh.out.1.cell 11 rfl
    have d0 : w'.cell? ⟨P, 0, none⟩ = some (.int .i64 a.w) := hh.out.1.cell 0 rfl
    have d1 : w'.cell? ⟨P, 1, none⟩ = some (.int .i64 a.n) := hh.out.1.cell 1 rfl
    have f0 := hh.out.1.fro 0
    have f1 := hh.out.1.fro 1
    have h2 := (hh.out.1.set 0 (.int .i64 a.nw) (by decide)).set 1 (.int .i64 a.nc) (by decide)
    have H5 : Hid (Dq.Atc K B M R F own P 96 (Dq.pC R {a with w := a.nw, n := a.nc} (Dq.fv 74 P)) (Dq.up xs (F + 2) a.nw) (n + 1) ((w'.setCell ⟨P, 0, none⟩ (.int .i64 a.nw)).setCell ⟨P, 1, none⟩ (.int .i64 a.nc)) ∧ Ce.Kept (fun i => K i ∧ i ≠ P) w ((w'.setCell ⟨P, 0, none⟩ (.int .i64 a.nw)).setCell ⟨P, 1, none⟩ (.int .i64 a.nc))) := ⟨h2, hh.out.2.trans ((Ce.Kept.cell (fun h => h.2 rfl) _ _).trans (Ce.Kept.cell (fun h => h.2 rfl) _ _))⟩
    clear h2 hh CC3
    go_wp2_with fail
    go_ret
    exact ⟨rfl, H5⟩
end
end Go.Proofs.Ytlgelhkpdldgdaa
