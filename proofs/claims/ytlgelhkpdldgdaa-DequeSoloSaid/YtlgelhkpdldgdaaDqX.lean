/-
  Layer 16: the program's deque: New.
-/
import Derived.Test.YtlgelhkpdldgdaaDqW
namespace Go.Proofs.Ytlgelhkpdldgdaa
open Go.RowKit
set_option linter.unusedVariables false
set_option linter.unusedSimpArgs false

namespace Dq
theorem powB {log : Int} {c : Nat} (hl : log ≤ 8) (hc : c = 2 ^ log.toNat) : 1 ≤ c ∧ c ≤ 256 := by
  have h0 : log.toNat ≤ 8 := by omega
  have h1 : (2 : Nat) ^ log.toNat ≤ 2 ^ 8 := Nat.pow_le_pow_right (by decide) h0
  have h2 : 0 < (2 : Nat) ^ log.toNat := Nat.pow_pos (by decide)
  rw [← hc] at h1 h2
  exact ⟨h2, h1⟩
theorem wrN (c : Nat) (h : c ≤ 256) : wrap64 (c : Int) = (c : Int) ∧ IntKind.i64.wrap (c : Int) = (c : Int) := by
  refine ⟨?_, ?_⟩
  · unfold wrap64
    omega
  · rw [IntKind.wrap_i64]
    omega
theorem powW {log : Int} {c : Nat} (hl : log ≤ 8) (hc : c = 2 ^ log.toNat) : wrap64 (2 ^ log.toNat) = (c : Int) ∧ IntKind.i64.wrap (2 ^ log.toNat) = (c : Int) := by
  have h := wrN c (powB hl hc).2
  have e : (2 : Int) ^ log.toNat = (c : Int) := by rw [hc]; push_cast; rfl
  rw [e]
  exact h
theorem lies_new (w : World) (F c : Int) (m : Nat) (hm : c.toNat = m) (T : TypeId) : Lies (w.alloc (.cells (((madeCells #[.int .i64 0] (m + 4)).setIfInBounds 2 (.int .i64 (F + 3))).setIfInBounds 3 (.int .i64 c)) T)) (w.alloc (.cells (((madeCells #[.int .i64 0] (m + 4)).setIfInBounds 2 (.int .i64 (F + 3))).setIfInBounds 3 (.int .i64 c)) T)).heap.size (some ⟨w.heap.size, 0, none⟩) (icells (newX F c)) := fun _ => by
  refine ⟨_, rfl, by simp, fun j u hu => ?_⟩
  have e : (⟨w.heap.size, 0, none⟩ : Addr).add j = ⟨w.heap.size, j, none⟩ := Ce.off_add _ _
  have hs : (madeCells #[Value.int .i64 0] (m + 4)).size = m + 4 := by
    rw [← Array.length_toList, toList_madeCells_one]
    simp
  rw [e, cell_of_row _ _ j _ _ _ (heap_alloc_new w _), ← hu, Array.getElem?_setIfInBounds, Array.getElem?_setIfInBounds, Array.size_setIfInBounds, hs]
  unfold newX icells
  rw [hm]
  match j with
  | 0 => rw [if_neg (by omega), if_neg (by omega), ← Array.getElem?_toList, toList_madeCells_one, List.replicate_succ]; rfl
  | 1 => rw [if_neg (by omega), if_neg (by omega), ← Array.getElem?_toList, toList_madeCells_one, List.replicate_succ, List.replicate_succ]; rfl
  | 2 => rw [if_neg (by omega), if_pos rfl, if_pos (by omega)]; rfl
  | 3 => rw [if_pos rfl, if_pos (by omega)]; rfl
  | j + 4 =>
    rw [if_neg (by omega), if_neg (by omega), ← Array.getElem?_toList, toList_madeCells_one, List.replicate_succ, List.replicate_succ, List.replicate_succ, List.replicate_succ]
    simp
end Dq
section
variable {K : Nat → Prop} {B M : Nat} {pre : List Int} {n : Nat} {w : World}
theorem clenS {v : Value} {xs : List Int} (h : Ce.PM B M v xs n w) : Calls Try.prog 10 #[.pointer (some ⟨B, 0, none⟩)] w fun e w' => e = .returned (.int .i64 (xs.length : Int)) ∧ w' = w := by
  obtain ⟨A, c, rfl⟩ := Gm.own_form h.row
  have c0 := h.c0
  have m1 := h.m1
  have HI : Hid (Calls Try.prog 27 #[.pointer (some ⟨B, 0, none⟩)] w fun e w' => e = .returned (.bool true) ∧ w = w') := by
    clear h m1
    go_enter Try.func27, Try.ntmps27
    go_wp2_with fail
    go_ret
    exact ⟨rfl, rfl⟩
  clear h
  go_enter Try.func10, Try.ntmps10
  go_wp2_with fail
  refine HI.out.mono ?_
  rintro e w1 ⟨rfl, rfl⟩
  go_wp2_with fail
  go_ret
  exact ⟨rfl, rfl⟩
theorem q_isMem (h : Ce.Pm K B M pre n w) (hn : n ≤ 999999999999) : Calls Try.prog 26 #[.pointer (some ⟨B, 0, none⟩)] w fun e w' => e = .returned (.bool true) ∧ Hid (Ce.Pm K B M pre n w' ∧ Ce.Kept K w w') := by
  have hz : Ce.has pre (-1) = false := Ce.has_not (by omega)
  have h1 := pm_load h (by omega) (-1)
  have e1 : Ce.ldV pre (-1) = 0 := by unfold Ce.ldV; rw [hz]; rfl
  have e2 : Ce.erC pre (-1) = 5 := by unfold Ce.erC; rw [hz]; rfl
  have e3 : Ce.cnt pre (-1) n = n := by unfold Ce.cnt; rw [hz]; rfl
  rw [e1, e2, e3] at h1
  have HL := Lib.hid h1
  clear h h1 e1 e2 e3 hz
  go_enter Try.func26, Try.ntmps26
  go_wp2_with fail
  refine HL.out.mono ?_
  rintro e w1 ⟨rfl, hh⟩
  have HH := Lib.hid hh
  clear hh
  go_wp2_with fail
  go_ret
  exact ⟨rfl, HH⟩
set_option maxRecDepth 20000 in
set_option maxHeartbeats 1000000 in
theorem d_new (h : Ce.Pm K B M pre n w) (hn : n ≤ 999999999999) (hp : pre.length ≤ 60000) (log : Int) (hl : 0 ≤ log ∧ log ≤ 8) (c : Nat) (hc : c = 2 ^ log.toNat) : Calls Try.prog 9 #[.pointer (some ⟨B, 0, none⟩), .int .i64 log] w fun e w' =>
    ∃ D R, e = .returned (.tuple #[.pointer (some ⟨D, 0, none⟩), .int .i64 0]) ∧ w.heap.size ≤ D ∧ w.heap.size ≤ R ∧ Dq.Dv (fun i => K i ∨ i = D) B M R pre.length (.pointer none) (pre ++ Dq.newX pre.length c) n w' ∧ Dq.Dd D R w' ∧ Ce.Kept K w w' := by
  have HI := Lib.hid (q_isMem h hn)
  have hl1 : ¬ log < 0 := by omega
  have hl2 : ¬ (8 : Int) < log := by omega
  have hl3 : (0 : Int) ≤ log := by omega
  have hc2 : 1 ≤ c ∧ c ≤ 256 := Dq.powB hl.2 hc
  have HS1 := Lib.hid (Dq.powW hl.2 hc)
  clear hc
  obtain ⟨k, hk⟩ : ∃ k : Nat, k = c + 4 := ⟨_, rfl⟩
  have hs2' : IntKind.i64.wrap (4 + (c : Int)) = (k : Int) := by rw [IntKind.wrap_i64]; omega
  have hs2 : wrap64 (4 + (c : Int)) = (k : Int) := by
    unfold wrap64
    omega
  have hs3 : wrap64 ((pre.length : Int) + 3) = (pre.length : Int) + 3 := by
    unfold wrap64
    omega
  have hs3' : IntKind.i64.wrap ((pre.length : Int) + 3) = (pre.length : Int) + 3 := by rw [IntKind.wrap_i64]; omega
  have hmk : ∀ W : World, (Instr.makeSlice 27 (.int .i64 (k : Int)) (.int .i64 (k : Int))).run Try.prog W = .ok (.slice (some ⟨W.heap.size, 0, none⟩) k k) (W.alloc (.cells (madeCells #[.int .i64 0] k) 2)) := fun W => by
    obtain ⟨i, hi, hz⟩ := Option.map_eq_some_iff.1 Ce.i64Info
    simp only [Prod.mk.injEq] at hz
    obtain ⟨z1, z2, z3⟩ := hz
    have := run_makeSlice (P := Try.prog) W 27 2 i _ Try.underlying27 hi z1 .i64 .i64 (k : Int) (k : Int) (by omega) (Int.le_refl _) (by rw [z2]; omega) (by rw [z3]; omega) (by omega)
    rw [this, z2]
    simp [Value.cells]
  have hk2 : (2 : Int) < (k : Int) := by omega
  have hk3 : (3 : Int) < (k : Int) := by omega
  have HC : Hid (k = c + 4 ∧ 1 ≤ c ∧ c ≤ 256 ∧ pre.length ≤ 60000) := by show _ ∧ _; omega
  have hs1 := HS1.out.1
  have hs1' := HS1.out.2
  clear hn h hc2 hl hp hk
  go_enter Try.func9, Try.ntmps9
  go_wp2_with fail
  refine HI.out.mono ?_
  rintro e w1 ⟨rfl, hh⟩
  have HVV : Hid (∀ q, Ce.Pm K B M pre n (w1.drewN q) ∧ Ce.Kept K w (w1.drewN q)) := fun q => ⟨hh.out.1.below (Ce.belDN (Below.refl _ _) q), hh.out.2.trans (Ce.Kept.of_below (Ce.belDN (Below.refl _ _) q))⟩
  have HZ : Hid (∀ q, w.heap.size ≤ (w1.drewN q).heap.size) := fun q => (HVV.out q).2.size
  have HLN : Hid (∀ q, Calls Try.prog 10 #[.pointer (some ⟨B, 0, none⟩)] (w1.drewN q) fun e w' => e = .returned (.int .i64 (pre.length : Int)) ∧ w' = w1.drewN q) := fun q => by
    obtain ⟨v, hv, _⟩ := (HVV.out q).1.ex
    exact clenS hv
  clear hh HI
  go_wp2_with fail
  go_quiet ((go_at_call 10; exact Calls.quiet_of_same (HLN.out _)))
  have hv := HVV.out nq
  have hz := HZ.out nq
  clear HVV HZ HLN
  generalize w1.drewN nq = V at hv hz ⊢
  have HV := Lib.hid hv
  have HZZ := Lib.hid hz
  have g2 : (V.alloc (.cells (madeCells #[.int .i64 0] k) 2)).cell? ⟨V.heap.size, 2, none⟩ = some (.int .i64 0) := by
    rw [cell_of_row _ _ 2 _ _ _ (heap_alloc_new V _), ← Array.getElem?_toList, toList_madeCells_one, HC.out.1]
    rfl
  have g3 : (V.alloc (.cells (madeCells #[.int .i64 0] k) 2)).cell? ⟨V.heap.size, 3, none⟩ = some (.int .i64 0) := by
    rw [cell_of_row _ _ 3 _ _ _ (heap_alloc_new V _), ← Array.getElem?_toList, toList_madeCells_one, HC.out.1]
    rfl
  have gf2 : (V.alloc (.cells (madeCells #[.int .i64 0] k) 2)).frozen? ⟨V.heap.size, 2, none⟩ = false := frozen_of_row _ _ 2 _ _ (heap_alloc_new V _)
  have gf3 : (V.alloc (.cells (madeCells #[.int .i64 0] k) 2)).frozen? ⟨V.heap.size, 3, none⟩ = false := frozen_of_row _ _ 3 _ _ (heap_alloc_new V _)
  have g3' : (V.alloc (.cells ((madeCells #[.int .i64 0] k).setIfInBounds 2 (.int .i64 ((pre.length : Int) + 3))) 2)).cell? ⟨V.heap.size, 3, none⟩ = some (.int .i64 0) := by
    rw [cell_of_row _ _ 3 _ _ _ (heap_alloc_new V _), Array.getElem?_setIfInBounds, if_neg (by decide), ← Array.getElem?_toList, toList_madeCells_one, HC.out.1]
    rfl
  have gf3' : (V.alloc (.cells ((madeCells #[.int .i64 0] k).setIfInBounds 2 (.int .i64 ((pre.length : Int) + 3))) 2)).frozen? ⟨V.heap.size, 3, none⟩ = false := frozen_of_row _ _ 3 _ _ (heap_alloc_new V _)
  obtain ⟨W2, hW2⟩ : ∃ W2, W2 = V.alloc (.cells (((madeCells #[.int .i64 0] k).setIfInBounds 2 (.int .i64 ((pre.length : Int) + 3))).setIfInBounds 3 (.int .i64 (c : Int))) 2) := ⟨_, rfl⟩
  have b2 : Below V.heap.size V W2 := by rw [hW2]; exact (Below.refl _ _).alloc (Nat.le_refl _) _
  have l2 : Lies W2 W2.heap.size (some ⟨V.heap.size, 0, none⟩) (icells (Dq.newX pre.length c)) := by rw [hW2, HC.out.1]; exact Dq.lies_new V _ _ c (by omega) _
  have hys : (Dq.newX pre.length c).length = k := by have := HC.out; unfold Dq.newX; simp; omega
  have HMO := pm_more (hv.1.below b2) (some ⟨V.heap.size, 0, none⟩) (Dq.newX pre.length c) k l2 (by rw [hys]; unfold maxLen; have := HC.out; omega) (by have := HC.out; omega)
  have hmr : Ce.moR pre (Dq.newX pre.length c) = true := decide_eq_true (by rw [hys]; have := HC.out; omega)
  rw [hys, show Ce.moA pre (Dq.newX pre.length c) = pre.length by unfold Ce.moA; rw [hmr]; rfl, show Ce.moE pre (Dq.newX pre.length c) = 0 by unfold Ce.moE; rw [hmr]; rfl, show Ce.moX pre (Dq.newX pre.length c) = pre ++ Dq.newX pre.length c by unfold Ce.moX; rw [hmr]; rfl] at HMO
  have HM := Lib.hid HMO
  have HB2 : Hid (Ce.Kept K w W2) := hv.2.trans (Ce.Kept.of_below b2)
  have HN1 : Hid (Dq.ld (pre ++ Dq.newX pre.length c) pre.length = 0 ∧ Dq.ld (pre ++ Dq.newX pre.length c) (pre.length + 1) = 0) := by
    refine ⟨?_, ?_⟩
    · unfold Dq.ld
      rw [Int.toNat_natCast, List.getD_eq_getElem?_getD, List.getElem?_append_right (Nat.le_refl _), Nat.sub_self]
      rfl
    · unfold Dq.ld
      rw [show ((pre.length : Int) + 1).toNat = pre.length + 1 by omega, List.getD_eq_getElem?_getD, List.getElem?_append_right (by omega), Nat.add_sub_cancel_left]
      rfl
  clear hv hz b2 l2 hys HMO hmr
  go_wp2_with fail
  rw [← hW2]
  clear hW2 g2 g3 gf2 gf3 g3' gf3'
  refine HM.out.mono ?_
  rintro e w3 ⟨rfl, h3, k3⟩
  have H3 : Hid (Ce.Pm K B M (pre ++ Dq.newX pre.length c) n w3 ∧ Ce.Kept K w w3) := ⟨h3, HB2.out.trans k3⟩
  clear h3 k3
  go_wp2_with fail
  go_ret2
  have hw3 := H3.out.2.size
  have b4 : Below w3.heap.size w3 (w3.alloc (.cells #[.pointer (some ⟨B, 0, none⟩), .int .i64 (pre.length : Int), .int .i64 0, .int .i64 0, .pointer none] 81)) := (Below.refl _ _).alloc (Nat.le_refl _) _
  have b5 : Below w3.heap.size w3 ((w3.alloc (.cells #[.pointer (some ⟨B, 0, none⟩), .int .i64 (pre.length : Int), .int .i64 0, .int .i64 0, .pointer none] 81)).alloc (.cells #[.pointer (some ⟨w3.heap.size, 0, none⟩)] 83)) := b4.alloc (by simp) _
  refine ⟨w3.heap.size + 1, w3.heap.size, ?_, by omega, hw3, ⟨?_, ?_, ?_⟩, ?_, H3.out.2.trans (Ce.Kept.of_below b5)⟩
  · first | rfl | simp
  · refine (H3.out.1.push b5).mono fun i hi => ?_
    have e5 : ((w3.alloc (.cells #[.pointer (some ⟨B, 0, none⟩), .int .i64 (pre.length : Int), .int .i64 0, .int .i64 0, .pointer none] 81)).alloc (.cells #[.pointer (some ⟨w3.heap.size, 0, none⟩)] 83)).heap.size = w3.heap.size + 2 := by simp
    rcases hi with (hi | hi) | hi
    · exact .inl hi
    · exact .inr ⟨by omega, by omega⟩
    · exact .inr ⟨by omega, by omega⟩
  · rw [HN1.out.1, HN1.out.2, Below.heap_alloc _ _ _ (by simp)]
    exact heap_alloc_new _ _
  · rintro (h1 | h1)
    · have := H3.out.1.lt _ h1
      omega
    · omega
  · have := heap_alloc_new (w3.alloc (.cells #[.pointer (some ⟨B, 0, none⟩), .int .i64 (pre.length : Int), .int .i64 0, .int .i64 0, .pointer none] 81)) (.cells #[.pointer (some ⟨w3.heap.size, 0, none⟩)] 83)
    simpa [Dq.Dd] using this
end
end Go.Proofs.Ytlgelhkpdldgdaa
