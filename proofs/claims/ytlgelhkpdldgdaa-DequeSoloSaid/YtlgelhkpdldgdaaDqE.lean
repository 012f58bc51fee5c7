/-
  Layer 16: the program's pushes: the steps that do more than read.
-/
import Derived.Test.YtlgelhkpdldgdaaDqD
import Derived.Deep.RegionHeld3
namespace Go.Proofs.Ytlgelhkpdldgdaa
open Go.RowKit
set_option linter.unusedVariables false
set_option linter.unusedSimpArgs false

namespace Dq
theorem made0 (T : TypeId) (n : Nat) (w : World) : Lies (w.alloc (.cells (madeCells #[.int .i64 0] n) T)) (w.alloc (.cells (madeCells #[.int .i64 0] n) T)).heap.size (some ⟨w.heap.size, 0, none⟩) (icells (List.replicate n 0)) := fun _ => by
  refine ⟨_, rfl, by simp, fun j u hu => ?_⟩
  have e : (⟨w.heap.size, 0, none⟩ : Addr).add j = ⟨w.heap.size, j, none⟩ := Ce.off_add _ _
  rw [e, cell_of_row _ _ j _ _ _ (heap_alloc_new w _), ← hu, ← Array.getElem?_toList, toList_madeCells_one]
  simp [icells]
end Dq
section
variable {K : Nat → Prop} {B M R : Nat} {F : Int} {own : Value} {P : Nat} {xs : List Int} {n : Nat} {w : World} {a : Dq.A} {nx : Value}
theorem q_placeU {T : TypeId} {cs : Array Value} (h : Dq.Atc K B M R F own P T cs xs n w) (hb : Dq.Bd F xs n) {wh m : Int} (h0 : Dq.RowOk xs wh m) (i : Int) (hi : 0 ≤ i ∧ i ≤ 1000000) : ∀ U, Below w.heap.size w U → Calls Try.prog 80 #[.agg #[.int .i64 wh, .int .i64 m], .int .i64 i] U fun e w' => e = .returned (.int .i64 (Dq.pl wh m i)) ∧ Below w.heap.size w w' ∧ ∀ j u, cs[j]? = some u → w'.cell? ⟨P, j, none⟩ = some u := fun U hU => by
  have h1 := h0.w0
  have h2 := h0.n1
  have h3 := h0.lt
  have h4 := hb.len
  refine (q_place U wh m i h1 h2 (by omega) hi).mono ?_
  rintro e w' ⟨rfl, hb2⟩
  have hb3 := hU.trans (hb2.mono hU.size)
  exact ⟨rfl, hb3, fun j u hu => (h.below hb3).cell j hu⟩
set_option maxHeartbeats 1000000 in
theorem s_push3 (h : Dq.Atc K B M R F own P 96 (Dq.pC R a nx) xs n w) (hb : Dq.Bd F xs n) (h0 : 0 ≤ a.w ∧ a.w < xs.length) (hs : Dq.Sm a.b ∧ Dq.Sm a.t) : Calls Try.prog 67 #[.pointer (some ⟨P, 0, none⟩)] w (Dq.Rdd K B M R F own P 96 (Dq.pC R {a with n := Dq.ld xs a.w} (Dq.fv (if Dq.ld xs a.w ≤ a.b - a.t then 75 else 74) P)) xs (n + 1) w) := by
  have HR := Lib.hid (q_readCount h hb (Dq.fv 74 P) (Dq.fvOk _ _) rfl h0)
  have hw : IntKind.i64.wrap (a.b - a.t) = a.b - a.t := by
    have h1 := hs.1
    have h2 := hs.2
    unfold Dq.Sm at h1 h2
    rw [IntKind.wrap_i64]; omega
  obtain ⟨fq, hf⟩ : ∃ x, x = (if Dq.ld xs a.w ≤ a.b - a.t then 75 else 74) := ⟨_, rfl⟩
  rw [← hf]
  have HF := Lib.hid hf
  clear h hb hs h0 hf
  unfold Dq.Rdd Dq.fv at HR
  unfold Dq.Rdd
  go_enter Try.func67, Try.ntmps67
  go_wp2_with fail
  refine HR.out.mono ?_
  rintro e w1 ⟨rfl, hh⟩
  have h1 : Dq.Atc K B M R F own P 96 (Dq.pC R {a with n := Dq.ld xs a.w} (Dq.fv 74 P)) xs (n + 1) w1 := hh.out.1
  have HK : Hid (Ce.Kept (fun i => K i ∧ i ≠ P) w w1) := hh.out.2
  have d1 : w1.cell? ⟨P, 1, none⟩ = some (.int .i64 (Dq.ld xs a.w)) := h1.cell 1 rfl
  have d3 : w1.cell? ⟨P, 3, none⟩ = some (.int .i64 a.t) := h1.cell 3 rfl
  have d4 : w1.cell? ⟨P, 4, none⟩ = some (.int .i64 a.b) := h1.cell 4 rfl
  have d6 : w1.cell? ⟨P, 6, none⟩ = some (.func (.func 74) #[.pointer (some ⟨P, 0, none⟩)] #[]) := h1.cell 6 rfl
  have f6 := h1.fro 6
  have H1 : Hid (∀ q, Dq.Atc K B M R F own P 96 (Dq.pC R {a with n := Dq.ld xs a.w} (Dq.fv 74 P)) xs (n + 1) (w1.drewN q) ∧ Ce.Kept (fun i => K i ∧ i ≠ P) w (w1.drewN q)) := fun q => ⟨h1.below (Ce.belDN (Below.refl _ _) q), HK.out.trans (Ce.Kept.of_below (Ce.belDN (Below.refl _ _) q))⟩
  have HG : Hid (∀ q, Dq.Atc K B M R F own P 96 (Dq.pC R {a with n := Dq.ld xs a.w} (Dq.fv 75 P)) xs (n + 1) ((w1.drewN q).setCell ⟨P, 6, none⟩ (Dq.fv 75 P)) ∧ Ce.Kept (fun i => K i ∧ i ≠ P) w ((w1.drewN q).setCell ⟨P, 6, none⟩ (Dq.fv 75 P))) := fun q => ⟨(h1.below (Ce.belDN (Below.refl _ _) q)).set 6 (Dq.fv 75 P) (by decide), (HK.out.trans (Ce.Kept.of_below (Ce.belDN (Below.refl _ _) q))).trans (Ce.Kept.cell (fun h => h.2 rfl) _ _)⟩
  unfold Dq.fv at HG H1
  clear h1 hh HR HK
  by_cases hg : Dq.ld xs a.w ≤ a.b - a.t
  · have HGG := Lib.hid hg
    go_wp2_with fail
    go_quiet (fail)
    go_wp2_with fail
    go_ret
    rw [HF.out, if_pos HGG.out]
    exact ⟨rfl, Lib.hid (HG.out _)⟩
  · have HGG := Lib.hid hg
    go_wp2_with fail
    go_quiet (fail)
    go_wp2_with fail
    go_ret
    rw [HF.out, if_neg (by have := HGG.out; omega)]
    exact ⟨rfl, Lib.hid (H1.out _)⟩
theorem s_push11 (h : Dq.Atc K B M R F own P 96 (Dq.pC R a nx) xs n w) (hb : Dq.Bd F xs n) (h0 : Dq.RowOk xs a.w a.n) (hi : 0 ≤ a.i ∧ a.i ≤ 1000000) : Calls Try.prog 89 #[.pointer (some ⟨P, 0, none⟩)] w (Dq.Rdd K B M R F own P 96 (Dq.pC R {a with rd := Dq.ld xs (Dq.pl a.w a.n a.i)} (Dq.fv 92 P)) xs (n + 1) w) := by
  have HR : Hid (∀ U, Below w.heap.size w U → Calls Try.prog 86 #[.pointer (some ⟨P, 0, none⟩), .int .i64 a.i, .func (.func 92) #[.pointer (some ⟨P, 0, none⟩)] #[]] U (Dq.Rdd K B M R F own P 96 (Dq.pC R {a with rd := Dq.ld xs (Dq.pl a.w a.n a.i)} (Dq.fv 92 P)) xs (n + 1) w)) := fun U hU => (q_readPlace (h.below hU) hb (Dq.fv 92 P) (Dq.fvOk _ _) rfl rfl h0 a.i hi).mono fun _ _ h => ⟨h.1, h.2.out.1, h.2.out.2.aft hU⟩
  have hd : Below w.heap.size w w.drew := (Below.refl _ _).drew
  have c12 : w.cell? ⟨P, 12, none⟩ = some (.int .i64 a.i) := h.cell 12 rfl
  clear h hb h0 hi
  unfold Dq.Rdd at HR ⊢
  go_enter Try.func89, Try.ntmps89
  go_wp2_with fail
  go_region_with (go_at_call 86; refine (HR.out _ hd).mono ?_; rintro e w' ⟨rfl, hh⟩)
  all_goals
    go_wp2_with fail
    go_ret
    exact ⟨rfl, hh⟩
set_option maxHeartbeats 2000000 in
theorem s_push20 (h : Dq.Atc K B M R F own P 96 (Dq.pC R a nx) xs n w) (hb : Dq.Bd F xs n) (h0 : Dq.RowOk xs a.w a.n) (hi : 0 ≤ a.b ∧ a.b ≤ 1000000) : Calls Try.prog 74 #[.pointer (some ⟨P, 0, none⟩)] w (Dq.Rdd K B M R F own P 96 (Dq.pC R a (Dq.fv 81 P)) (Dq.up xs (Dq.pl a.w a.n a.b) a.V) (n + 1) w) := by
  have hp := h0.place a.b
  have HP := Lib.hid (q_placeU h hb h0 a.b hi)
  have HW := Lib.hid (q_writeU h hb (Dq.pl a.w a.n a.b) a.V hp.1 hp.2 (Dq.fv 81 P) (Dq.fvOk _ _))
  have hd : Below w.heap.size w w.drew := (Below.refl _ _).drew
  have c0 : w.cell? ⟨P, 0, none⟩ = some (.int .i64 a.w) := h.cell 0 rfl
  have c1 : w.cell? ⟨P, 1, none⟩ = some (.int .i64 a.n) := h.cell 1 rfl
  have c4 : w.cell? ⟨P, 4, none⟩ = some (.int .i64 a.b) := h.cell 4 rfl
  have c9 : w.cell? ⟨P, 9, none⟩ = some (.int .i64 a.V) := h.cell 9 rfl
  clear h hb h0 hi hp
  unfold Dq.Rdd Dq.fv at HW
  unfold Dq.Rdd
  go_enter Try.func74, Try.ntmps74
  go_wp2_with fail
  have CC0 : Hid (w.cell? ⟨P, 0, none⟩ = some (.int .i64 a.w) ∧ w.cell? ⟨P, 1, none⟩ = some (.int .i64 a.n) ∧ w.cell? ⟨P, 4, none⟩ = some (.int .i64 a.b) ∧ w.cell? ⟨P, 9, none⟩ = some (.int .i64 a.V)) := ⟨c0, c1, c4, c9⟩
  clear c0 c1 c4 c9
  go_region_held3 (fun wx => wx.cell? ⟨P, 0, none⟩ = some (.int .i64 a.w) ∧ wx.cell? ⟨P, 1, none⟩ = some (.int .i64 a.n) ∧ wx.cell? ⟨P, 4, none⟩ = some (.int .i64 a.b) ∧ wx.cell? ⟨P, 9, none⟩ = some (.int .i64 a.V)) (first | with_reducible assumption | with_reducible exact CC0.out | with_reducible exact CC2.out | with_reducible exact CC3.out | exact CC0.out)
    (first
    | (go_at_call 80; refine (HP.out _ hd).mono ?_; rintro e wp ⟨rfl, hd2, hc⟩; have CC2 : Hid (wp.cell? ⟨P, 0, none⟩ = some (.int .i64 a.w) ∧ wp.cell? ⟨P, 1, none⟩ = some (.int .i64 a.n) ∧ wp.cell? ⟨P, 4, none⟩ = some (.int .i64 a.b) ∧ wp.cell? ⟨P, 9, none⟩ = some (.int .i64 a.V)) := ⟨hc 0 _ rfl, hc 1 _ rfl, hc 4 _ rfl, hc 9 _ rfl⟩; clear hc)
    | (go_at_call 68; refine (HW.out _ (by assumption)).mono ?_; rintro e w' ⟨rfl, hh⟩; have CC3 : Hid (w'.cell? ⟨P, 0, none⟩ = some (.int .i64 a.w) ∧ w'.cell? ⟨P, 1, none⟩ = some (.int .i64 a.n) ∧ w'.cell? ⟨P, 4, none⟩ = some (.int .i64 a.b) ∧ w'.cell? ⟨P, 9, none⟩ = some (.int .i64 a.V)) := ⟨hh.out.1.cell 0 rfl, hh.out.1.cell 1 rfl, hh.out.1.cell 4 rfl, hh.out.1.cell 9 rfl⟩))
  all_goals
    go_wp2_with fail
    go_ret
    exact ⟨rfl, hh⟩
theorem s_push21 (h : Dq.Atc K B M R F own P 96 (Dq.pC R a nx) xs n w) (hb : Dq.Bd F xs n) (hi : Dq.Sm a.b) : Calls Try.prog 81 #[.pointer (some ⟨P, 0, none⟩)] w (Dq.Rdd K B M R F own P 96 (Dq.pC R {a with told := 1, got := 0} .nilFunc) (Dq.up xs (F + 1) (a.b + 1)) (n + 1) w) := by
  have HL : Hid (∀ U, Below w.heap.size w U → Calls Try.prog 85 #[.pointer (some ⟨P, 0, none⟩), .int .i64 (a.b + 1), .int .u8 1, .int .i64 0] U (Dq.Rdd K B M R F own P 96 (Dq.pC R {a with told := 1, got := 0} .nilFunc) (Dq.up xs (F + 1) (a.b + 1)) (n + 1) w)) := fun U hU => (q_leave (h.below hU) hb (a.b + 1) 1 0).mono fun _ _ h => ⟨h.1, h.2.out.1, h.2.out.2.aft hU⟩
  have hd : Below w.heap.size w w.drew := (Below.refl _ _).drew
  have c4 : w.cell? ⟨P, 4, none⟩ = some (.int .i64 a.b) := h.cell 4 rfl
  have hw : IntKind.i64.wrap (a.b + 1) = a.b + 1 := by
    unfold Dq.Sm at hi
    rw [IntKind.wrap_i64]; omega
  clear h hb hi
  unfold Dq.Rdd at HL ⊢
  go_enter Try.func81, Try.ntmps81
  go_wp2_with fail
  go_region_with (go_at_call 85; refine (HL.out _ hd).mono ?_; rintro e w' ⟨rfl, hh⟩)
  all_goals
    go_wp2_with fail
    go_ret
    exact ⟨rfl, hh⟩
end
end Go.Proofs.Ytlgelhkpdldgdaa
