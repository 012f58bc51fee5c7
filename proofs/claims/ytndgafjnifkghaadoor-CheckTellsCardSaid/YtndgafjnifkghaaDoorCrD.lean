/-
  The document's May (layer 10).
-/
import Derived.Test.YtndgafjnifkghaaDoorCrC
import Derived.Test.YtndgafjnifkghaaDoorCdH
namespace Go.Proofs.YtndgafjnifkghaaDoor
open Go.RowKit

set_option maxHeartbeats 1500000 in
set_option maxRecDepth 20000 in
theorem rMay10 (l : List Cd.Fm) (hR : ∀ m ∈ l, m.f.Rng) (hn : l.length ≤ maxLen) (A : Option Addr) (c : Nat) (w : World) (hP : Cd.Prog w w.heap.size A l) :
    Calls Tryd.prog 16 #[.agg #[.slice A l.length c]] w fun e w' => e = .returned (.bool (Cd.pok (Cd.fns l))) ∧ Below w.heap.size w w' := by
  unfold maxLen at hn
  obtain ⟨W, hW⟩ : ∃ W, W = w.alloc (.cells #[.slice A l.length c] 24) := ⟨_, rfl⟩
  have hb : Below w.heap.size w W := by rw [hW]; exact Cd.fn1 _ _ _
  have HF : Hid (W.heap[w.heap.size]? = some (.cells #[.slice A l.length c] 24 (0, 0))) := by show _ = _; rw [hW]; exact heap_alloc_new w _
  have HB := Lib.hid hb
  have HP := Lib.hid hP
  have HR := Lib.hid hR
  have HOK := Lib.hid (Cd.pok_iff l)
  clear hb hP hR
  go_enter Tryd.func16, Tryd.ntmps16
  go_upto_region 1 with fail
  rw [← hW]
  clear hW
  obtain ⟨X, hX⟩ : ∃ X, X = w.heap.size := ⟨_, rfl⟩
  rw [← hX] at HF ⊢
  clear hX
  have c0 : W.cell? ⟨X, 0, none⟩ = some (.slice A l.length c) := cell_of_row _ _ 0 _ _ _ HF.out
  by_cases h16 : 16 < l.length
  · have h16i : (16 : Int) < l.length := by omega
    have HE : Hid (Cd.pok (Cd.fns l) = false) := by show _ = _; rw [HOK.out, decide_eq_false (by omega)]; rfl
    clear h16
    go_wp2_with fail
    go_ret
    exact ⟨by rw [HE.out]; rfl, HB.out⟩
  · have h16i : ¬ (16 : Int) < l.length := by omega
    have HOK2 : Hid (Cd.pok (Cd.fns l) = l.all fun m => m.f.ok) := by show _ = _; rw [HOK.out, decide_eq_true (by omega), Bool.true_and]
    clear h16 HOK
    go_wp2_with fail
    clear c0
    go_loopw [3] (fun s3 wr => ∃ k : Nat, k ≤ l.length ∧ s3 = .int .i64 k ∧ Hid ((l.take k).all (fun m => m.f.ok) = true) ∧ Hid (Below W.heap.size W wr)) (fun s3 _ => l.length - (intOf s3).toNat)
    case atStart => exact ⟨0, Nat.zero_le _, rfl, rfl, Below.refl _ _⟩
    case round =>
      obtain ⟨k, hk, rfl, HK, HBW⟩ := hrel
      have c0 : wr.cell? ⟨X, 0, none⟩ = some (.slice A l.length c) := cell_of_row _ _ 0 _ _ _ ((HBW.out.block _ (Cd.ltH HF.out)).trans HF.out)
      have hbw : Below w.heap.size w wr := HB.out.trans (HBW.out.mono HB.out.size)
      by_cases hlt : k < l.length
      · obtain ⟨ad, rfl, hadb, d0, d1, d2⟩ := Cd.fn_at (HP.out.below hbw).fs hlt
        have k0 : (0 : Int) ≤ (k : Int) := by omega
        have k1 : (k : Int) < l.length := by omega
        have HRM := Lib.hid (HR.out _ (List.getElem_mem hlt))
        have hlen := HRM.out.len
        unfold maxLen at hlen
        have HLI := Lib.hid (HP.out.os _ (List.getElem_mem hlt))
        have HK2 : Hid (l[k].f.ok = true → (l.take (k + 1)).all (fun m => m.f.ok) = true) := fun h => by
          rw [List.take_succ_eq_append_getElem hlt, List.all_append, HK.out]
          simpa using h
        have HK3 : Hid (l[k].f.ok = false → Cd.pok (Cd.fns l) = false) := fun h => by
          rw [HOK2.out]
          by_cases hq : (l.all fun m => m.f.ok) = true
          · rw [List.all_eq_true.1 hq _ (List.getElem_mem hlt)] at h; cases h
          · simpa using hq
        generalize l[k] = m at d0 d1 d2 HLI HK2 HK3 HRM hlen
        clear hadb hlt HK
        obtain ⟨V, hV⟩ : ∃ V, V = wr.alloc (.cells #[.int .i64 m.f.args, .int .i64 m.f.regs, .slice m.A m.f.ops.length m.c] 41) := ⟨_, rfl⟩
        have hbV : Below wr.heap.size wr V := by rw [hV]; exact Cd.fn1 _ _ _
        have HFB : Hid (Cd.FB V wr.heap.size m.f.args m.f.regs (.slice m.A m.f.ops.length m.c)) := by show V.heap[_]? = _; rw [hV]; exact heap_alloc_new wr _
        have HBV := Lib.hid (HBW.out.trans (hbV.mono HBW.out.size))
        have HBVw := Lib.hid (hbw.trans (hbV.mono hbw.size))
        have HRA := Lib.hid (fun U => rReg10 m.f.args U)
        have HRB := Lib.hid (fun U => rReg10 m.f.regs U)
        have HMK : Hid (m.f.ok = (Cd.reg m.f.args && Cd.reg m.f.regs && decide (m.f.ops.length ≤ 64) && m.f.ops.all Cd.OpV.ok)) := rfl
        generalize Cd.reg m.f.args = ra at HRA HMK
        generalize Cd.reg m.f.regs = rb at HRB HMK
        clear hbV hbw HBW
        go_upto_region 7 with fail
        rw [← hV]
        clear hV c0 d0 d1 d2
        generalize wr.heap.size = F at HFB ⊢
        have x0 := HFB.out.c0
        have x1 := HFB.out.c1
        have x2 := HFB.out.c2
        go_wp2_with fail
        refine (HRA.out _).mono ?_
        rintro e w1 ⟨rfl, rfl⟩
        cases ra with
        | false =>
          have HE := Lib.hid (HK3.out (by rw [HMK.out]; rfl))
          clear HK2 HK3
          go_wp2_with fail
          go_ret
          exact ⟨by rw [HE.out]; rfl, HBVw.out⟩
        | true =>
          go_wp2_with fail
          refine (HRB.out _).mono ?_
          rintro e w1 ⟨rfl, rfl⟩
          cases rb with
          | false =>
            have HE := Lib.hid (HK3.out (by rw [HMK.out]; rfl))
            clear HK2 HK3
            go_wp2_with fail
            go_ret
            exact ⟨by rw [HE.out]; rfl, HBVw.out⟩
          | true =>
            by_cases h64 : 64 < m.f.ops.length
            · have h64i : (64 : Int) < m.f.ops.length := by omega
              have h64b : decide ((64 : Int) < m.f.ops.length) = true := by simpa using h64i
              have h64n : decide (64 < m.f.ops.length) = true := by simpa using h64
              have HE := Lib.hid (HK3.out (by rw [HMK.out, decide_eq_false (by omega)]; rfl))
              clear HK2 HK3 h64
              go_wp2_with fail
              go_ret
              exact ⟨by rw [HE.out]; rfl, HBVw.out⟩
            · have h64i : ¬ (64 : Int) < m.f.ops.length := by omega
              have h64b : decide ((64 : Int) < m.f.ops.length) = false := by simpa using h64i
              have h64n : decide (64 < m.f.ops.length) = false := by simpa using h64
              have HMK2 : Hid (m.f.ok = m.f.ops.all Cd.OpV.ok) := by show _ = _; rw [HMK.out, decide_eq_true (by omega)]; rfl
              clear h64 HMK HRA HRB
              go_wp2_with fail
              clear x0 x1 x2 h64i h64b h64n
              go_loopw [5] (fun s5 wy => ∃ j : Nat, j ≤ m.f.ops.length ∧ s5 = .int .i64 j ∧ Hid ((m.f.ops.take j).all Cd.OpV.ok = true) ∧ Hid (Below V.heap.size V wy)) (fun s5 _ => m.f.ops.length - (intOf s5).toNat)
              case atStart => exact ⟨0, Nat.zero_le _, rfl, rfl, Below.refl _ _⟩
              case round =>
                rename World => wy
                obtain ⟨j, hj, rfl, HJ, HBY⟩ := hrel
                have x2 := (HFB.out.of_block (HBY.out.block F HFB.out.lt)).c2
                have hby : Below w.heap.size w wy := HBVw.out.trans (HBY.out.mono HBVw.out.size)
                by_cases hjt : j < m.f.ops.length
                · obtain ⟨adm, hAm, hadm, c0, c1, c2, c3, c4⟩ := Cd.op_at (HLI.out.below hby) hjt
                  rw [hAm] at x2
                  have j0 : (0 : Int) ≤ (j : Int) := by omega
                  have j1 : (j : Int) < m.f.ops.length := by omega
                  have HO := Lib.hid (rOp10 m.f.ops[j] (HRM.out.ops _ (List.getElem_mem hjt)) wy)
                  have HJ2 : Hid (m.f.ops[j].ok = true → (m.f.ops.take (j + 1)).all Cd.OpV.ok = true) := fun h => by
                    rw [List.take_succ_eq_append_getElem hjt, List.all_append, HJ.out]
                    simpa using h
                  have HJ3 : Hid (m.f.ops[j].ok = false → Cd.pok (Cd.fns l) = false) := fun h => HK3.out (by
                    rw [HMK2.out]
                    by_cases hq : (m.f.ops.all Cd.OpV.ok) = true
                    · rw [List.all_eq_true.1 hq _ (List.getElem_mem hjt)] at h; cases h
                    · simpa using hq)
                  generalize m.f.ops[j].ok = q at HO HJ2 HJ3
                  generalize m.f.ops[j] = o at c0 c1 c2 c3 c4 HO
                  have HYW := Lib.hid hby
                  clear hadm hjt hAm hby HJ HK2 HK3
                  go_wp2_with fail
                  refine HO.out.mono ?_
                  rintro e wz ⟨rfl, hbz⟩
                  have HZ := Lib.hid (HBY.out.trans (hbz.mono HBY.out.size))
                  have HZW := Lib.hid (HYW.out.trans (hbz.mono HYW.out.size))
                  clear hbz
                  cases q with
                  | true =>
                    have HJ4 := Lib.hid (HJ2.out rfl)
                    clear HJ2 HJ3
                    go_wp2_with fail
                    go_roundw
                    case rel => exact ⟨j + 1, by omega, by go_num, HJ4.out, HZ.out⟩
                    case measure => simp [intOf]; omega
                  | false =>
                    have HJ4 := Lib.hid (HJ3.out rfl)
                    clear HJ2 HJ3
                    go_wp2_with fail
                    go_ret
                    exact ⟨by rw [HJ4.out]; rfl, HZW.out⟩
                · have j1 : ¬ ((j : Int) < m.f.ops.length) := by omega
                  have HJ4 := Lib.hid (HK2.out (by rw [HMK2.out]; have := HJ.out; rwa [List.take_of_length_le (by omega)] at this))
                  have HBZ := Lib.hid (HBV.out.trans (HBY.out.mono HBV.out.size))
                  clear hby HK2 HK3
                  go_wp2_with fail
                  go_roundw
                  case rel => exact ⟨k + 1, by omega, by go_num, HJ4.out, HBZ.out⟩
                  case measure => simp [intOf]; omega
      · have k1 : ¬ ((k : Int) < l.length) := by omega
        have HE : Hid (Cd.pok (Cd.fns l) = true) := by
          have := HK.out
          rw [List.take_of_length_le (by omega)] at this
          exact HOK2.out.trans this
        have HBZ := Lib.hid hbw
        clear hbw
        go_wp2_with fail
        go_ret
        exact ⟨by rw [HE.out]; rfl, HBZ.out⟩
end Go.Proofs.YtndgafjnifkghaaDoor
