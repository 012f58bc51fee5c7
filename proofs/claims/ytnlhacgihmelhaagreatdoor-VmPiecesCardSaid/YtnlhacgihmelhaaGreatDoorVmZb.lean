/-
  Layer 14: VmPieces' walk.
-/
import Derived.Test.YtnlhacgihmelhaaGreatDoorLowVmX
namespace Go.Proofs.YtnlhacgihmelhaaGreatDoor
open Go.RowKit

namespace Vm
open Cd Ev
theorem stp_len {x : Stp} {k : Int} {pa : ByteArray} {fn : Int} {n : Nat} {fu va er : Int} (h : stpV x = (k, pa, fn, n, fu, va, er)) : n = (kargs x).length := by
  cases x <;> (cases h; rfl)
theorem stp_done {x : Stp} {k : Int} {r : ByteArray × Int × Nat × Int × Int × Int} (h : stpV x = (k, r)) : ((k == 4) = true ↔ ∃ q, x = .done q) ∧ ((k == 2) = true ↔ ∃ q, x = .fork q) := by
  cases x <;> (cases h; simp)
theorem kargs_step {p : List FnV} {t : Tsk} {s : Fs} : (kargs (stepF p t s).1).length ≤ s.regs.length := by
  unfold stepF
  split
  · exact Nat.zero_le _
  · unfold doF
    split
    · unfold fork
      split
      · exact Nat.zero_le _
      · split
        · exact Nat.zero_le _
        · show ((s.regs.drop _).take _).length ≤ _
          rw [List.length_take, List.length_drop]
          omega
    · split
      · unfold join
        split
        · exact Nat.zero_le _
        · split
          · exact Nat.zero_le _
          · split <;> exact Nat.zero_le _
      · unfold plainF
        split <;> exact Nat.zero_le _
theorem kargs_join {o : OpV} {s : Fs} : kargs (join o s).1 = [] := by
  unfold join
  split
  · rfl
  · split
    · rfl
    · split <;> rfl
theorem kargs_go {p : List FnV} {t : Tsk} (he : PE p t) : ∀ (n : Nat) (x : Stp × Fs), FOk p t x.2 → (x.1 = .more → x.2.over = false ∧ x.2.waits = false) → (kargs x.1).length ≤ 16 → (kargs (goF p t n x).1).length ≤ 16 := by
  intro n
  induction n with
  | zero => intro x _ _ h; rw [go_zero]; exact h
  | succ n ih =>
    intro x hok hfl h
    by_cases hx : isMore x.1 = true
    · obtain ⟨y, s⟩ := x
      obtain rfl := more_of hx
      obtain ⟨h1, h2⟩ := hfl rfl
      rw [go_more]
      exact ih _ (step_ok he.tok he.good hok h1 h2) (step_more h1 h2) (Nat.le_trans kargs_step (he.regs hok.regs))
    · rw [go_stop p t _ x (by simpa using hx)]
      exact h
theorem kargs_run {p : List FnV} {t : Tsk} (he : PE p t) (n : Nat) {s : Fs} (hok : FOk p t s) : (kargs (runF p t n s).1).length ≤ 16 := by
  unfold runF
  split
  · exact Nat.zero_le _
  · rename_i ho
    have ho' : s.over = false := by simpa using ho
    split
    · rename_i hw
      obtain ⟨h1, h2⟩ := join_paid hok ho' hw
      exact kargs_go he n _ (join_ok h1 h2) (join_more ho') (by rw [kargs_join]; exact Nat.zero_le _)
    · rename_i hw
      exact kargs_go he n _ hok (fun _ => ⟨ho', by simpa using hw⟩) (Nat.zero_le _)
theorem pc_num (x : Nat) (h : x ≤ 255) : IntKind.i64.wrap (x : Int) = (x : Int) ∧ wrap64 (x : Int) = (x : Int) ∧ (x : Int).tmod 9 = ((x % 9 : Nat) : Int) ∧ IntKind.i64.wrap (1 + ((x % 9 : Nat) : Int)) = ((x % 9 + 1 : Nat) : Int) := by
  refine ⟨by rw [IntKind.wrap_i64]; omega, by unfold wrap64; omega, ?_, by rw [IntKind.wrap_i64]; omega⟩
  rw [Int.tmod_eq_emod_of_nonneg (by omega)]
  omega
theorem pc_mod (a n : Nat) : (a : Int).tmod (n : Int) = ((a % n : Nat) : Int) := by rw [Int.tmod_eq_emod_of_nonneg (by omega), Int.natCast_emod]
theorem pc_at (a : Nat) (h : a ≤ 3072) : IntKind.i64.wrap ((a : Int) + 1) = (a : Int) + 1 ∧ ¬ (9000 : Int) < (a : Int) + 1 := ⟨by rw [IntKind.wrap_i64]; omega, by omega⟩
end Vm

set_option maxHeartbeats 1000000 in
set_option maxRecDepth 20000 in
theorem pieces14 (l : List Cd.Fm) (hR : ∀ m ∈ l, m.f.Rng) (hn : l.length ≤ maxLen) (PA : Option Addr) (pc : Nat) (path : ByteArray) (fn : Int) (xs : List Int) (A : Option Addr) (c : Nat) (fuel : Int) (w : World) (hP : Cd.Prog w w.heap.size PA l) (hL : Ck.Laid w) (hl : Lies w w.heap.size A (icells xs))
    (B8 : Option Addr) (ps : List Int) (c8 : Nat) (h8 : Lies w w.heap.size B8 (Vm.u8c ps)) (hp8 : ∀ x ∈ ps, 0 ≤ x ∧ x ≤ 255) (GA : Option Addr) (gs : List Int) (gc : Nat) (hgl : gs.length ≤ maxLen) (hg : Lies w w.heap.size GA (icells gs)) :
    Calls Tryz.prog 7 #[.agg #[.slice PA l.length pc], .agg #[.string path, .int .i64 fn, .slice A xs.length c, .int .i64 fuel], .slice B8 ps.length c8, .slice GA gs.length gc] w fun e w' => e = .returned (.bool true) ∧ Below w.heap.size w w' := by
  obtain ⟨V1, hV1⟩ : ∃ V, V = w.alloc (.cells #[.slice PA l.length pc] 24) := ⟨_, rfl⟩
  obtain ⟨V2, hV2⟩ : ∃ V, V = V1.alloc (.cells #[.string path, .int .i64 fn, .slice A xs.length c, .int .i64 fuel] 41) := ⟨_, rfl⟩
  have hb1 : Below w.heap.size w V1 := by rw [hV1]; exact Cd.fn1 _ _ _
  have hs1 : V1.heap.size = w.heap.size + 1 := by rw [hV1]; simp
  have hb2 : Below V1.heap.size V1 V2 := by rw [hV2]; exact Cd.fn1 _ _ _
  have hB2 : Below w.heap.size w V2 := hb1.trans (hb2.mono hb1.size)
  have hX : V2.heap[w.heap.size]? = some (.cells #[.slice PA l.length pc] 24 (0, 0)) := (hb2.block w.heap.size (by omega)).trans (by rw [hV1]; exact heap_alloc_new w _)
  have hT : V2.heap[w.heap.size + 1]? = some (.cells #[.string path, .int .i64 fn, .slice A xs.length c, .int .i64 fuel] 41 (0, 0)) := by rw [← hs1, hV2]; exact heap_alloc_new V1 _
  have HVY := Lib.hid (vheavy l hR hn PA pc V2 ((hP.below hB2).mono hB2.size) A xs.length c fuel)
  have HR := Lib.hid hR
  have HN := Lib.hid hn
  have HPR := Lib.hid hP
  have HLI := Lib.hid hl
  have HL8 := Lib.hid h8
  have HP8 := Lib.hid hp8
  have HGL := Lib.hid hgl
  have HGS := Lib.hid hg
  have HB2 := Lib.hid hB2
  have HXR := Lib.hid hX
  have HTR := Lib.hid hT
  have HAL : Hid (∀ U, Below w.heap.size w U → Calls Tryz.prog 18 #[] U fun e w' => e = .returned (.bool true) ∧ Below w.heap.size w w') := fun U hU => by
    refine (alive14 U (hL.later hU)).mono ?_
    rintro e w' ⟨he, hb'⟩
    exact ⟨he, hU.trans (hb'.mono hU.size)⟩
  have HLD := Lib.hid hL
  have x0 : V2.cell? ⟨w.heap.size, 0, none⟩ = some (.slice PA l.length pc) := cell_of_row _ _ 0 _ _ _ hX
  have t0 : V2.cell? ⟨w.heap.size + 1, 0, none⟩ = some (.string path) := cell_of_row _ _ 0 _ _ _ hT
  have t2 : V2.cell? ⟨w.heap.size + 1, 2, none⟩ = some (.slice A xs.length c) := cell_of_row _ _ 2 _ _ _ hT
  have t3 : V2.cell? ⟨w.heap.size + 1, 3, none⟩ = some (.int .i64 fuel) := cell_of_row _ _ 3 _ _ _ hT
  clear hb1 hb2 hB2 hX hT hR hn hP hL hl h8 hp8 hg hgl
  go_enter Tryz.func7, Tryz.ntmps7
  go_upto_region 1 with fail
  rw [← hV1, ← hV2]
  clear hV1 hV2 hs1
  obtain ⟨Z, hZe⟩ : ∃ Z, Z = w.heap.size := ⟨_, rfl⟩
  rw [← hZe] at x0 t0 t2 t3 HXR HTR ⊢
  have HZE := Lib.hid hZe
  clear hZe
  go_wp2_with fail
  refine HVY.out.mono ?_
  rintro e w2 ⟨hv, rfl, hvy, hbv⟩
  have HBW : Hid (Below w.heap.size w w2) := HB2.out.trans (hbv.mono HB2.out.size)
  have hX2 := (hbv.block Z (Cd.ltH HXR.out)).trans HXR.out
  have hT2 := (hbv.block (Z + 1) (Cd.ltH HTR.out)).trans HTR.out
  have HX2 := Lib.hid hX2
  have HT2 := Lib.hid hT2
  have x0 : w2.cell? ⟨Z, 0, none⟩ = some (.slice PA l.length pc) := cell_of_row _ _ 0 _ _ _ hX2
  have t0 : w2.cell? ⟨Z + 1, 0, none⟩ = some (.string path) := cell_of_row _ _ 0 _ _ _ hT2
  have t1 : w2.cell? ⟨Z + 1, 1, none⟩ = some (.int .i64 fn) := cell_of_row _ _ 1 _ _ _ hT2
  have t2 : w2.cell? ⟨Z + 1, 2, none⟩ = some (.slice A xs.length c) := cell_of_row _ _ 2 _ _ _ hT2
  have t3 : w2.cell? ⟨Z + 1, 3, none⟩ = some (.int .i64 fuel) := cell_of_row _ _ 3 _ _ _ hT2
  clear hbv hX2 hT2 HVY
  cases hv with
  | true =>
    clear hvy
    go_wp2_with fail
    refine (HAL.out _ HBW.out).mono ?_
    rintro e w3 ⟨rfl, hb3⟩
    go_wp2_with fail
    go_ret
    exact ⟨rfl, hb3⟩
  | false =>
    obtain ⟨hx100, hf3⟩ := hvy rfl
    have HX100 := Lib.hid hx100
    have HF3 := Lib.hid hf3
    clear hvy hx100 hf3
    by_cases hp200 : 200 < ps.length
    · have e1 : (200 : Int) < (ps.length : Int) := by omega
      clear hp200
      go_wp2_with fail
      refine (HAL.out _ HBW.out).mono ?_
      rintro e w3 ⟨rfl, hb3⟩
      go_wp2_with fail
      go_ret
      exact ⟨rfl, hb3⟩
    · have e1 : ¬ (200 : Int) < (ps.length : Int) := by omega
      by_cases hpz : 1024 < path.size
      · have e2 : (1024 : Int) < (path.size : Int) := by omega
        clear hpz hp200
        go_wp2_with fail
        refine (HAL.out _ HBW.out).mono ?_
        rintro e w3 ⟨rfl, hb3⟩
        go_wp2_with fail
        go_ret
        exact ⟨rfl, hb3⟩
      · have e2 : ¬ (1024 : Int) < (path.size : Int) := by omega
        have HPS : Hid (ps.length ≤ 200 ∧ path.size ≤ 1024) := ⟨by omega, by omega⟩
        have HNW : Hid (∀ U, Below w.heap.size w U → Calls Tryz.prog 19 #[.agg #[.slice PA l.length pc], .agg #[.string path, .int .i64 fn, .slice A xs.length c, .int .i64 fuel]] U (Vm.NewP (Cd.fns l) path fn xs fuel U)) := fun U hU =>
          vNew l HR.out HN.out PA pc path (by omega) fn xs fuel A c U ((HPR.out.below hU).mono hU.size) (HLD.out.later hU) ((HLI.out.below hU).mono hU.size)
        clear hp200 hpz
        go_wp2_with fail
        refine (HNW.out _ HBW.out).mono ?_
        rintro e w3 ⟨hb3, hc3⟩
        have HB3 : Hid (Below w.heap.size w w3) := HBW.out.trans (hb3.mono HBW.out.size)
        have hX3 := (hb3.block Z (Cd.ltH HX2.out)).trans HX2.out
        have hT3 := (hb3.block (Z + 1) (Cd.ltH HT2.out)).trans HT2.out
        have x0 : w3.cell? ⟨Z, 0, none⟩ = some (.slice PA l.length pc) := cell_of_row _ _ 0 _ _ _ hX3
        have t0 : w3.cell? ⟨Z + 1, 0, none⟩ = some (.string path) := cell_of_row _ _ 0 _ _ _ hT3
        have t1 : w3.cell? ⟨Z + 1, 1, none⟩ = some (.int .i64 fn) := cell_of_row _ _ 1 _ _ _ hT3
        have t2 : w3.cell? ⟨Z + 1, 2, none⟩ = some (.slice A xs.length c) := cell_of_row _ _ 2 _ _ _ hT3
        have t3 : w3.cell? ⟨Z + 1, 3, none⟩ = some (.int .i64 fuel) := cell_of_row _ _ 3 _ _ _ hT3
        have HBB3 := Lib.hid hb3
        clear hb3 hX3 hT3
        obtain ⟨E, hEe⟩ : ∃ E, E = Vm.newE (Cd.fns l) path fn xs.length fuel := ⟨_, rfl⟩
        rw [← hEe] at hc3
        rcases hc3 with ⟨hE0, rfl⟩ | ⟨hE0, F1, b1, rfl, hK1, -, ho1⟩
        · have e3 : (E != 0) = true := by simpa using hE0
          have HEE := Lib.hid hEe
          clear hE0 hEe
          go_wp2_with fail
          refine (HNW.out _ HB3.out).mono ?_
          rintro e w4 ⟨hb4, hc4⟩
          rw [← HEE.out] at hc4
          have HB4 : Hid (Below w.heap.size w w4) := HB3.out.trans (hb4.mono HB3.out.size)
          clear hb4
          rcases hc4 with ⟨-, rfl⟩ | ⟨hE1, -⟩
          · go_wp2_with fail
            refine (HAL.out _ HB4.out).mono ?_
            rintro e w5 ⟨rfl, hb5⟩
            go_wp2_with fail
            go_ret
            exact ⟨rfl, hb5⟩
          · rw [hE1] at e3
            cases e3
        · have HEE := Lib.hid (hEe.symm.trans hE0)
          subst hE0
          have HK1 := Lib.hid hK1
          have HO1 := Lib.hid ho1
          clear hEe hK1 ho1
          go_wp2_with fail
          refine (HNW.out _ HB3.out).mono ?_
          rintro e w4 ⟨hb4, hc4⟩
          rw [HEE.out] at hc4
          have HBB4 := Lib.hid hb4
          clear hb4
          rcases hc4 with ⟨hE1, -⟩ | ⟨-, F2, b2, rfl, hK2, -, ho2⟩
          · exact absurd rfl hE1
          · have HDU : Hid (Vm.DuoV (fun _ => True) F1 F2 (Cd.fns l) ⟨path, fn, xs, fuel.toNat⟩ w2 b1 b2 (Vm.startF (Cd.fns l) ⟨path, fn, xs, fuel.toNat⟩) (Vm.startF (Cd.fns l) ⟨path, fn, xs, fuel.toNat⟩) w4) := Vm.DuoV.start HK1.out HO1.out HBB3.out hK2 ho2 HBB4.out
            obtain ⟨hfu, hpe⟩ := Vm.newE_ok HEE.out
            have HPE := Lib.hid hpe
            obtain ⟨F, hFe⟩ : ∃ F, F = fuel.toNat := ⟨_, rfl⟩
            have HF : Hid (F ≤ 3000) := by have := HF3.out; show _ ≤ _; omega
            rw [← hFe] at HDU HPE
            obtain ⟨T, hTe⟩ : ∃ T : Ev.Tsk, T = ⟨path, fn, xs, F⟩ := ⟨_, rfl⟩
            rw [← hTe] at HDU HPE
            have HS0 : Hid (Vm.PcR F1 F2 (Cd.fns l) T w2 F 0 0 w4) := ⟨_, _, _, HDU.out, Vm.start_ok HPE.out.tok HPE.out.good, by rw [hTe]; show 0 + F ≤ F + 0; omega, by rw [hTe]; exact Nat.le_refl F⟩
            have HT16 : Hid (T.args.length ≤ 100000) := by rw [hTe]; show xs.length ≤ _; have := HX100.out; omega
            clear hK2 ho2 hfu hpe hFe hTe HDU HK1 HO1 HNW x0 t0 t1 t2 t3
            go_wp2_with fail
            go_loopw [13, 14] (fun s13 s14 wr => ∃ (a r : Nat), r ≤ 72 ∧ s13 = .int .i64 (a : Int) ∧ s14 = .int .i64 (r : Int) ∧ Hid (Vm.PcR F1 F2 (Cd.fns l) T w2 F a r wr)) (fun _ s14 _ => 72 - (intOf s14).toNat)
            case atStart => exact ⟨0, 0, by omega, rfl, rfl, HS0.out⟩
            case round =>
              rename World => wr
              obtain ⟨a, r, hr, rfl, rfl, HPC⟩ := hrel
              obtain ⟨s, b1', b2', hduo, hok, hle⟩ := HPC.out.two
              have HDU := Lib.hid hduo
              have HOK := Lib.hid hok
              have HLE := Lib.hid hle
              clear hduo hok hle HS0 HPC
              by_cases hr72 : r < 72
              · have r1 : (r : Int) < 72 := by omega
                have HRF := Lib.hid (HDU.out.runF HPE.out HOK.out 3001 (by decide) (by decide))
                have HR72 := Lib.hid hr72
                clear hr72 hr
                go_wp2_with fail
                refine HRF.out.mono ?_
                rintro e w5 ⟨b1'', k, pa, fn5, A5, n5, c5, fu5, va, er, rfl, h5⟩
                have HLEN5 := Lib.hid (Vm.stp_len h5.out.1)
                have HST := Lib.hid h5.out.1
                obtain ⟨W15, hW15⟩ : ∃ X, X = w5.alloc (.cells #[.int .u8 k, .string pa, .int .i64 fn5, .slice A5 n5 c5, .int .i64 fu5, .int .i64 va, .int .i64 er] 59) := ⟨_, rfl⟩
                obtain ⟨W17, hW17⟩ : ∃ X, X = W15.alloc (.cells #[.int .u8 1, .string ⟨#[]⟩, .int .i64 0, .slice none 0 0, .int .i64 0, .int .i64 0, .int .i64 0] 59) := ⟨_, rfl⟩
                have hb15 : Below w5.heap.size w5 W15 := by rw [hW15]; exact Cd.fn1 _ _ _
                have hb17 : Below W15.heap.size W15 W17 := by rw [hW17]; exact Cd.fn1 _ _ _
                have hs15 : W15.heap.size = w5.heap.size + 1 := by rw [hW15]; simp
                have hb57 : Below w5.heap.size w5 W17 := hb15.trans (hb17.mono hb15.size)
                have hS17 : W17.heap[w5.heap.size]? = some (.cells #[.int .u8 k, .string pa, .int .i64 fn5, .slice A5 n5 c5, .int .i64 fu5, .int .i64 va, .int .i64 er] 59 (0, 0)) := (hb17.block w5.heap.size (by omega)).trans (by rw [hW15]; exact heap_alloc_new w5 _)
                have hQ17 : W17.heap[W15.heap.size]? = some (.cells #[.int .u8 1, .string ⟨#[]⟩, .int .i64 0, .slice none 0 0, .int .i64 0, .int .i64 0, .int .i64 0] 59 (0, 0)) := by rw [hW17]; exact heap_alloc_new W15 _
                have hduo5 := h5.out.2.1
                have hduo17 : Vm.DuoV (fun i => i ≠ W15.heap.size) F1 F2 (Cd.fns l) T w2 b1'' b2' (Vm.runF (Cd.fns l) T 3001 s).2 s W17 := by
                  rw [hW17]
                  exact ((hduo5.below hb15).new _).free (fun i hi => hi.2)
                have harg17 : Vm.LOk (fun i => (Vm.KOff b1'' i ∧ Vm.KOff b2' i) ∧ i ≠ W15.heap.size) W17 A5 (icells (Vm.kargs (Vm.runF (Cd.fns l) T 3001 s).1)) := by
                  have h1 := h5.out.2.2.2.imp (off' := fun i => (Vm.KOff b1'' i ∧ Vm.KOff b2' i) ∧ i ≠ W15.heap.size) (fun i hi ho => ⟨ho.1, by omega⟩)
                  exact h1.mv (Gm.Mvg.of_below hb57)
                have HPI : Hid (Vm.PcI F1 F2 W15.heap.size (Cd.fns l) T w2 F r s b1'' w5.heap.size (.cells #[.int .u8 k, .string pa, .int .i64 fn5, .slice A5 n5 c5, .int .i64 fu5, .int .i64 va, .int .i64 er] 59 (0, 0)) A5 (Vm.kargs (Vm.runF (Cd.fns l) T 3001 s).1) a W17 .more s b2' 1 ⟨#[]⟩ 0 none 0 0 0 0 0) :=
                  ⟨hduo17, HOK.out, rfl, hQ17, (hduo5.below hb15).g.hf.fr.lt _ (Nat.le_refl _), hS17, ⟨hduo5.g.hf.fr.lt _ (Nat.le_refl _), hduo5.f.hf.fr.lt _ (Nat.le_refl _)⟩, by omega, harg17, Vm.LOk.nil _ _ _, Nat.le_trans hduo5.bel.size hb15.size, .inl ⟨rfl, HLE.out.1, 0, .inl ⟨rfl, rfl⟩⟩⟩
                have HLFT : Hid (s.left < 3001) := by have h1 := HLE.out.2; have h2 := HF.out; show _ < _; omega
                clear hb15 hb17 hb57 hS17 hQ17 hduo5 hduo17 harg17 h5 HRF HDU
                go_upto_region 13 with fail
                rw [← hW15, ← hs15, ← hW17]
                clear hW15 hW17 hs15
                obtain ⟨S, hSe⟩ : ∃ S, S = w5.heap.size := ⟨_, rfl⟩
                obtain ⟨Q, hQe⟩ : ∃ Q, Q = W15.heap.size := ⟨_, rfl⟩
                rw [← hSe, ← hQe] at HPI
                rw [← hSe, ← hQe]
                clear hSe hQe
                go_wp2_with fail
                have HPX : Hid (∀ x ∈ ps, 0 ≤ x ∧ x ≤ 255) := HP8.out
                go_loopw [13, 18, 19] (fun s13 s18 s19 wx => ∃ (a' : Nat), s13 = .int .i64 (a' : Int) ∧ s18 = .int .i64 0 ∧ Hid (∃ y s2 b2 k2 pa2 fn2 A2 n2 c2 fu2 va2 er2, Vm.PcI F1 F2 Q (Cd.fns l) T w2 F r s b1'' S (.cells #[.int .u8 k, .string pa, .int .i64 fn5, .slice A5 n5 c5, .int .i64 fu5, .int .i64 va, .int .i64 er] 59 (0, 0)) A5 (Vm.kargs (Vm.runF (Cd.fns l) T 3001 s).1) a' wx y s2 b2 k2 pa2 fn2 A2 n2 c2 fu2 va2 er2)) (fun s13 _ _ _ => 7000 - (intOf s13).toNat)
                case atStart => exact ⟨a, rfl, rfl, _, _, _, _, _, _, _, _, _, _, _, _, HPI.out⟩
                case round =>
                  rename World => wx
                  obtain ⟨a', rfl, rfl, HI0⟩ := hrel
                  obtain ⟨y, s2, b2, k2, pa2, fn2, A2, n2, c2, fu2, va2, er2, hI⟩ := HI0.out
                  have HI1 := Lib.hid hI
                  have q0 : wx.cell? ⟨Q, 0, none⟩ = some (.int .u8 k2) := cell_of_row _ _ 0 _ _ _ hI.row
                  have hk1 := Vm.stp_one hI.told
                  clear HPI HI0
                  by_cases hy : Vm.isMore y = true
                  · have ha' : a' ≤ 3072 := by
                      have h1 := HF.out
                      have h2 := HR72.out
                      rcases hI.run with ⟨-, h, -⟩ | ⟨h, -⟩
                      · omega
                      · rw [hy] at h; cases h
                    rw [hy] at hk1
                    have HY := Lib.hid hy
                    obtain ⟨haw, ha9⟩ := Vm.pc_at a' ha'
                    have HA' := Lib.hid ha'
                    have hl8 := (HL8.out.below (HBW.out.trans (hI.duo.bel.mono HBW.out.size)))
                    clear hy hI ha'
                    go_upto_if 82 with fail
                    go_cut [19] (fun s19 wX => ∃ N : Nat, s19 = .int .i64 (N : Int) ∧ Hid (1 ≤ N ∧ N ≤ 9 ∧ wX = wx))
                    case first =>
                      by_cases hp0 : 0 < ps.length
                      · have p0 : (0 : Int) < (ps.length : Int) := by omega
                        obtain ⟨j, hj⟩ : ∃ j : Nat, j = a' % ps.length := ⟨_, rfl⟩
                        have hjl : j < ps.length := by rw [hj]; exact Nat.mod_lt _ hp0
                        have hjm := Vm.pc_mod a' ps.length
                        rw [← hj] at hjm
                        obtain ⟨ad, rfl, -, hc⟩ := hl8 (by unfold Vm.u8c; rw [List.length_map]; exact hp0)
                        have d0 : wx.cell? (ad.add j) = some (.int .u8 ps[j]) := hc j _ (by unfold Vm.u8c; rw [List.getElem?_map, List.getElem?_eq_getElem hjl]; rfl)
                        have hx := HPX.out ps[j] (List.getElem_mem hjl)
                        obtain ⟨x, hxe⟩ := Int.eq_ofNat_of_zero_le hx.1
                        rw [hxe] at d0 hx
                        have hx255 : x ≤ 255 := Int.ofNat_le.1 hx.2
                        have m0 : ¬ (ps.length : Int) = 0 := fun e => Nat.ne_of_gt hp0 (Int.ofNat.inj e)
                        have j0 : (0 : Int) ≤ (j : Int) := Int.natCast_nonneg _
                        have j1 : (j : Int) < (ps.length : Int) := Int.ofNat_lt.2 hjl
                        obtain ⟨w1', w2', w3', w4'⟩ := Vm.pc_num x hx255
                        have hN8 : x % 9 ≤ 8 := Nat.le_of_lt_succ (Nat.mod_lt _ (by decide))
                        obtain ⟨N', hN'⟩ : ∃ N' : Nat, N' = x % 9 := ⟨_, rfl⟩
                        rw [← hN'] at w3' w4' hN8
                        have HNN := Lib.hid hN8
                        clear hp0 hj hjl hc hx hxe hN' hN8 hx255
                        go_wp2_with fail
                        go_meet
                        case rel => exact ⟨N' + 1, rfl, by omega, by have := HNN.out; omega, rfl⟩
                      · have p0 : ¬ (0 : Int) < (ps.length : Int) := by omega
                        clear hp0
                        go_wp2_with fail
                        go_meet
                        case rel => exact ⟨1, rfl, by omega, by omega, rfl⟩
                    case rest =>
                      rename World => wX
                      obtain ⟨N, rfl, HNX⟩ := hcut
                      have hwX := HNX.out.2.2
                      subst hwX
                      have HN19 : Hid (1 ≤ N ∧ N ≤ 9) := ⟨HNX.out.1, HNX.out.2.1⟩
                      have HRG := Lib.hid (HI1.out.duo.runG HPE.out HI1.out.ok N HN19.out.1 (by have := HN19.out.2; omega))
                      clear HNX hl8 q0
                      go_wp2_with fail
                      refine HRG.out.mono ?_
                      rintro e w8 ⟨b3, k3, pa3, fn3, A3, n3, c3, fu3, va3, er3, rfl, h8⟩
                      have HNW := Lib.hid (HI1.out.next (c' := c3) HPE.out HY.out N HN19.out.1 ⟨h8.out.1, h8.out.2.1, h8.out.2.2.1, h8.out.2.2.2⟩)
                      have hq8 := (h8.out.2.2.1.block Q (Cd.ltH HI1.out.row) HI1.out.qo).trans HI1.out.row
                      have y0 : w8.cell? ⟨Q, 0, none⟩ = some (.int .u8 k2) := cell_of_row _ _ 0 _ _ _ hq8
                      have y1 : w8.cell? ⟨Q, 1, none⟩ = some (.string pa2) := cell_of_row _ _ 1 _ _ _ hq8
                      have y2 : w8.cell? ⟨Q, 2, none⟩ = some (.int .i64 fn2) := cell_of_row _ _ 2 _ _ _ hq8
                      have y3 : w8.cell? ⟨Q, 3, none⟩ = some (.slice A2 n2 c2) := cell_of_row _ _ 3 _ _ _ hq8
                      have y4 : w8.cell? ⟨Q, 4, none⟩ = some (.int .i64 fu2) := cell_of_row _ _ 4 _ _ _ hq8
                      have y5 : w8.cell? ⟨Q, 5, none⟩ = some (.int .i64 va2) := cell_of_row _ _ 5 _ _ _ hq8
                      have y6 : w8.cell? ⟨Q, 6, none⟩ = some (.int .i64 er2) := cell_of_row _ _ 6 _ _ _ hq8
                      have yf0 := frozen_of_row _ _ 0 _ _ hq8
                      have yf1 := frozen_of_row _ _ 1 _ _ hq8
                      have yf2 := frozen_of_row _ _ 2 _ _ hq8
                      have yf3 := frozen_of_row _ _ 3 _ _ hq8
                      have yf4 := frozen_of_row _ _ 4 _ _ hq8
                      have yf5 := frozen_of_row _ _ 5 _ _ hq8
                      have yf6 := frozen_of_row _ _ 6 _ _ hq8
                      clear hq8 HRG h8 HI1
                      go_wp2_with fail
                      have hA' : a' ≤ 3072 := HA'.out
                      go_roundw
                      case rel => exact ⟨a' + 1, by go_num, rfl, _, _, _, _, _, _, _, _, _, _, _, _, HNW.out⟩
                      case measure => simp [intOf]; omega
                  · have hy' : Vm.isMore y = false := by simpa using hy
                    rw [hy'] at hk1
                    obtain ⟨e1', e2', hle'⟩ := hI.done HLFT.out hy'
                    have hXM : Vm.isMore (Vm.runF (Cd.fns l) T 3001 s).1 = false := by rw [← e1']; exact hy'
                    obtain ⟨x, hxe⟩ : ∃ x, x = Vm.runF (Cd.fns l) T 3001 s := ⟨_, rfl⟩
                    have HXE := Lib.hid hxe
                    have hka := Vm.kargs_run HPE.out 3001 HOK.out
                    have hst := HST.out
                    have hl5 := HLEN5.out
                    have hleft := Vm.run_left (Cd.fns l) T 3001 s
                    rw [← hxe] at e1' e2' hXM hka hst hl5 hleft hI
                    subst e1' e2'
                    have ht := hI.told
                    rw [hst] at ht
                    simp only [Prod.mk.injEq] at ht
                    obtain ⟨rfl, rfl, rfl, rfl, rfl, rfl, rfl⟩ := ht
                    subst hl5
                    have HI2 := Lib.hid hI
                    have HX := Lib.hid hst
                    have HM := Lib.hid hXM
                    have HLE2 : Hid (a' + x.2.left ≤ F + r + 1 ∧ x.2.left ≤ F) := ⟨hle', Nat.le_trans hleft HLE.out.2⟩
                    have HSS := Lib.hid (stops_same k pa fn5 fu5 va er (Vm.kargs x.1) A5 A2 c5 c2 wx hI.arg.li hI.arg2.li (by omega))
                    have u0 : wx.cell? ⟨S, 0, none⟩ = some (.int .u8 k) := cell_of_row _ _ 0 _ _ _ hI.srow
                    have u1 : wx.cell? ⟨S, 1, none⟩ = some (.string pa) := cell_of_row _ _ 1 _ _ _ hI.srow
                    have u2 : wx.cell? ⟨S, 2, none⟩ = some (.int .i64 fn5) := cell_of_row _ _ 2 _ _ _ hI.srow
                    have u3 : wx.cell? ⟨S, 3, none⟩ = some (.slice A5 (Vm.kargs x.1).length c5) := cell_of_row _ _ 3 _ _ _ hI.srow
                    have u4 : wx.cell? ⟨S, 4, none⟩ = some (.int .i64 fu5) := cell_of_row _ _ 4 _ _ _ hI.srow
                    have u5 : wx.cell? ⟨S, 5, none⟩ = some (.int .i64 va) := cell_of_row _ _ 5 _ _ _ hI.srow
                    have u6 : wx.cell? ⟨S, 6, none⟩ = some (.int .i64 er) := cell_of_row _ _ 6 _ _ _ hI.srow
                    have q1 : wx.cell? ⟨Q, 1, none⟩ = some (.string pa) := cell_of_row _ _ 1 _ _ _ hI.row
                    have q2 : wx.cell? ⟨Q, 2, none⟩ = some (.int .i64 fn5) := cell_of_row _ _ 2 _ _ _ hI.row
                    have q3 : wx.cell? ⟨Q, 3, none⟩ = some (.slice A2 (Vm.kargs x.1).length c2) := cell_of_row _ _ 3 _ _ _ hI.row
                    have q4 : wx.cell? ⟨Q, 4, none⟩ = some (.int .i64 fu5) := cell_of_row _ _ 4 _ _ _ hI.row
                    have q5 : wx.cell? ⟨Q, 5, none⟩ = some (.int .i64 va) := cell_of_row _ _ 5 _ _ _ hI.row
                    have q6 : wx.cell? ⟨Q, 6, none⟩ = some (.int .i64 er) := cell_of_row _ _ 6 _ _ _ hI.row
                    clear hy hy' hle' hxe hka hst hleft hI hXM HLE HST HLEN5 HI1
                    go_wp2_with fail
                    refine HSS.out.mono ?_
                    rintro e w9 ⟨rfl, hb9⟩
                    have hd9 := HI2.out.duo.below hb9
                    rw [← HXE.out] at hd9
                    have HD9 := Lib.hid hd9
                    have hS9 := (hb9.block S (Cd.ltH HI2.out.srow)).trans HI2.out.srow
                    have v0 : w9.cell? ⟨S, 0, none⟩ = some (.int .u8 k) := cell_of_row _ _ 0 _ _ _ hS9
                    have HLF := Lib.hid (vLeft HD9.out.f)
                    have HLG := Lib.hid (vLeft HD9.out.g)
                    have HKF := Lib.hid (vKids HD9.out.f)
                    have HKG := Lib.hid (vKids HD9.out.g)
                    clear hd9 hb9 hS9 u0 u1 u2 u3 u4 u5 u6 q0 q1 q2 q3 q4 q5 q6 HSS hk1
                    obtain ⟨M, hM⟩ : ∃ M, M = x.2.kids.length := ⟨_, rfl⟩
                    rw [← hM] at HKF HKG
                    have HMM := Lib.hid hM
                    clear hM
                    go_wp2_with fail
                    refine HLF.out.mono ?_
                    rintro e w10 ⟨rfl, rfl⟩
                    go_wp2_with fail
                    refine HLG.out.mono ?_
                    rintro e w10 ⟨rfl, rfl⟩
                    go_wp2_with fail
                    refine HKF.out.mono ?_
                    rintro e w10 ⟨rfl, rfl⟩
                    go_wp2_with fail
                    refine HKG.out.mono ?_
                    rintro e w10 ⟨rfl, rfl⟩
                    cases hx1 : x.1 with
                    | more => exact absurd HM.out (by show ¬ Vm.isMore x.1 = false; rw [hx1]; decide)
                    | done q =>
                      have hk : k = 4 := by have := HX.out; rw [hx1] at this; exact (congrArg Prod.fst this).symm
                      rw [hk] at v0
                      clear hx1 hk
                      go_wp2_with fail
                      refine (HAL.out _ (HBW.out.trans (HD9.out.bel.mono HBW.out.size))).mono ?_
                      rintro e w11 ⟨rfl, hb11⟩
                      go_wp2_with fail
                      go_ret
                      exact ⟨rfl, hb11⟩
                    | join =>
                      have hk : k = 3 := by have := HX.out; rw [hx1] at this; exact (congrArg Prod.fst this).symm
                      rw [hk] at v0
                      have HNX : Hid (Vm.PcR F1 F2 (Cd.fns l) T w2 F a' (r + 1) w9) := ⟨x.2, _, _, HD9.out.free (fun _ _ => trivial), HI2.out.ok, by have := HLE2.out.1; omega, HLE2.out.2⟩
                      clear hx1 hk
                      go_wp2_with fail
                      have hr1 : r < 72 := HR72.out
                      go_roundw
                      case rel => exact ⟨a', r + 1, by omega, rfl, by go_num, HNX.out⟩
                      case measure => simp [intOf]; omega
                    | fork q =>
                      have hk : k = 2 := by have := HX.out; rw [hx1] at this; exact (congrArg Prod.fst this).symm
                      rw [hk] at v0
                      have HGE : Hid (Vm.giveE x.2 (M : Int) = 0) := by
                        have h1 := hx1
                        rw [HXE.out] at h1
                        obtain ⟨⟨ks, kd, h2, h3⟩, h4⟩ := Vm.run_fork h1
                        rw [← HXE.out] at h2 h4
                        show _ = _
                        rw [HMM.out]
                        exact Vm.giveE_last h2 h3 h4
                      clear hx1 hk
                      go_wp2_with fail
                      refine HKF.out.mono ?_
                      rintro e w10 ⟨rfl, rfl⟩
                      obtain ⟨W20, hW20⟩ : ∃ X, X = w9.alloc (.cells #[.int .i64 (M : Int), .int .i64 0] 30) := ⟨_, rfl⟩
                      have hb20 : Below w9.heap.size w9 W20 := by rw [hW20]; exact Cd.fn1 _ _ _
                      have hR20 : W20.heap[w9.heap.size]? = some (.cells #[.int .i64 (M : Int), .int .i64 0] 30 (0, 0)) := by rw [hW20]; exact heap_alloc_new w9 _
                      have hd20 : Vm.DuoV (fun i => i ≠ Q ∧ i ≠ w9.heap.size) F1 F2 (Cd.fns l) T w2 b1'' b2 x.2 x.2 W20 := by rw [hW20]; exact HD9.out.new _
                      have HKO20 : Hid (Vm.KOff b1'' w9.heap.size ∧ w2.heap.size ≤ w9.heap.size) := ⟨HD9.out.f.hf.fr.lt _ (Nat.le_refl _), HD9.out.bel.size⟩
                      have HKO2B : Hid (Vm.KOff b2 w9.heap.size) := HD9.out.g.hf.fr.lt _ (Nat.le_refl _)
                      have HB20 : Hid (Below w.heap.size w W20) := HBW.out.trans ((HD9.out.bel.trans (hb20.mono HD9.out.bel.size)).mono HBW.out.size)
                      obtain ⟨R20, hR20e⟩ : ∃ x, x = w9.heap.size := ⟨_, rfl⟩
                      rw [← hR20e] at hR20 hd20 HKO20 HKO2B
                      have HR20 := Lib.hid hR20
                      have HD20 := Lib.hid hd20
                      have HM16 : Hid (M ≤ 16 ∧ 1 ≤ M) := ⟨by rw [HMM.out]; exact HI2.out.ok.kids, by
                        have h1 := HGE.out
                        unfold Vm.giveE at h1
                        split at h1
                        · cases h1
                        · omega⟩
                      clear hb20 hR20 hd20
                      go_upto_region 27 with fail
                      rw [← hW20, ← hR20e]
                      clear hW20 hR20e
                      have HKF2 := Lib.hid (vKids HD20.out.f)
                      rw [← HMM.out] at HKF2
                      go_wp2_with fail
                      refine HKF2.out.mono ?_
                      rintro e w11 ⟨rfl, rfl⟩
                      go_upto_if 142 with fail
                      go_cut [] (fun wX => ∃ v : Int, Hid (wX.heap[R20]? = some (.cells #[.int .i64 v, .int .i64 0] 30 (0, 0)) ∧ Vm.DuoV (fun i => i ≠ Q ∧ i ≠ R20) F1 F2 (Cd.fns l) T w2 b1'' b2 x.2 x.2 wX))
                      case first =>
                        by_cases hmg : M ≤ gs.length
                        · have g0 : (M : Int) ≤ (gs.length : Int) := by omega
                          obtain ⟨M1, hM1⟩ : ∃ M1, M = M1 + 1 := ⟨M - 1, by have := HM16.out.2; omega⟩
                          have hm1w : IntKind.i64.wrap ((M : Int) - 1) = (M1 : Int) := by rw [IntKind.wrap_i64]; have := HM16.out.1; omega
                          have hlg : M1 < gs.length := by omega
                          have hgs := HGS.out.below HB20.out
                          obtain ⟨ad, hGA, hadl, hc⟩ := hgs (by unfold icells; rw [List.length_map]; omega)
                          have d0 : W20.cell? (ad.add M1) = some (.int .i64 gs[M1]) := hc M1 _ (by unfold icells; rw [List.getElem?_map, List.getElem?_eq_getElem hlg]; rfl)
                          have HGA2 := Lib.hid hGA
                          rw [hGA]
                          generalize gs[M1] = gv at d0
                          have g1 : (0 : Int) ≤ (M1 : Int) := by omega
                          have g2 : (M1 : Int) < (gs.length : Int) := by omega
                          have c0 : W20.cell? ⟨R20, 0, none⟩ = some (.int .i64 (M : Int)) := cell_of_row _ _ 0 _ _ _ HR20.out
                          have f0 := frozen_of_row _ _ 0 _ _ HR20.out
                          have HNW : Hid ((W20.setCell ⟨R20, 0, none⟩ (.int .i64 gv)).heap[R20]? = some (.cells #[.int .i64 gv, .int .i64 0] 30 (0, 0)) ∧ Vm.DuoV (fun i => i ≠ Q ∧ i ≠ R20) F1 F2 (Cd.fns l) T w2 b1'' b2 x.2 x.2 (W20.setCell ⟨R20, 0, none⟩ (.int .i64 gv))) :=
                            ⟨heap_setCell_same _ _ _ _ _ _ HR20.out, HD20.out.set1 (fun i hi => hi.2) HKO20.out.2 _⟩
                          clear hmg hM1 hlg hgs hGA hadl hc
                          go_wp2_with fail
                          refine HKF2.out.mono ?_
                          rintro e w11 ⟨rfl, rfl⟩
                          go_wp2_with fail
                          rw [← HGA2.out]
                          go_meet
                          case rel => exact ⟨gv, HNW.out⟩
                        · have g0 : ¬ (M : Int) ≤ (gs.length : Int) := by omega
                          clear hmg
                          go_wp2_with fail
                          go_meet
                          case rel => exact ⟨(M : Int), HR20.out, HD20.out⟩
                      case rest =>
                        rename World => wX
                        obtain ⟨gv, HX2⟩ := hcut
                        clear HKF2 HR20 HD20
                        have HG1 := Lib.hid (HX2.out.2.below (Below.refl _ _).drew)
                        have HKA := Lib.hid (vKids HG1.out.f)
                        rw [← HMM.out] at HKA
                        have HGA := Lib.hid (HG1.out.giveF HI2.out.ok.kids (M : Int) ⟨gv, 0⟩ HGE.out)
                        have HGB : Hid (∀ U, Vm.DuoV (fun i => i ≠ Q ∧ i ≠ R20) F1 F2 (Cd.fns l) T w2 b1'' b2 (Vm.giveS x.2 (M : Int) ⟨gv, 0⟩) x.2 U → Calls Tryz.prog 26 #[.pointer (some ⟨F2, 0, none⟩)] U (fun e w' => e = .returned (.int .i64 (M : Int)) ∧ U = w')) := fun U hU => by
                          have := vKids hU.g
                          rw [← HMM.out] at this
                          exact this
                        have HGC : Hid (∀ U, Vm.DuoV (fun i => i ≠ Q ∧ i ≠ R20) F1 F2 (Cd.fns l) T w2 b1'' b2 (Vm.giveS x.2 (M : Int) ⟨gv, 0⟩) x.2 U → Calls Tryz.prog 24 #[.pointer (some ⟨F2, 0, none⟩), .int .i64 (M : Int), .agg #[.int .i64 gv, .int .i64 0]] U (fun e w' => e = .returned (.int .i64 0) ∧ Hid (Vm.DuoV (fun i => i ≠ Q ∧ i ≠ R20) F1 F2 (Cd.fns l) T w2 b1'' b2 (Vm.giveS x.2 (M : Int) ⟨gv, 0⟩) (Vm.giveS x.2 (M : Int) ⟨gv, 0⟩) w') ∧ Hid (Gm.Mvg (Vm.KOff b2) (Vm.KOff b2) U w'))) := fun U hU => by
                          refine (hU.giveG HI2.out.ok.kids (M : Int) ⟨gv, 0⟩ HGE.out).mono ?_
                          rintro e w' ⟨h1, h2⟩
                          exact ⟨h1, h2.out.1, h2.out.2⟩
                        have HRW := Lib.hid HX2.out.1
                        have HKB : Hid (Vm.KOff b1'' R20 ∧ Vm.KOff b2 R20) := ⟨HKO20.out.1, HKO2B.out⟩
                        have S29 : wX.drew.cell? ⟨R20, 0, none⟩ = some (.int .i64 gv) ∧ wX.drew.cell? ⟨R20, 1, none⟩ = some (.int .i64 0) := ⟨cell_of_row wX _ 0 _ _ _ HRW.out, cell_of_row wX _ 1 _ _ _ HRW.out⟩
                        have HSG : Hid (∀ w', Gm.Mvg (Vm.KOff b1'') (Vm.KOff b1'') wX.drew w' → w'.heap[R20]? = some (.cells #[.int .i64 gv, .int .i64 0] 30 (0, 0))) := fun w' m => (m.block R20 (Cd.ltH (w := wX.drew) HRW.out) HKB.out.1).trans HRW.out
                        clear HX2
                        go_upto_region 29 with fail
                        go_region_held3 (fun w' => w'.cell? ⟨R20, 0, none⟩ = some (.int .i64 gv) ∧ w'.cell? ⟨R20, 1, none⟩ = some (.int .i64 0))
                          (first | with_reducible assumption | exact S29)
                          (first
                            | (with_reducible refine (HGC.out w12 h12.out.1).mono ?_
                               rintro e w13 ⟨rfl, h13, m13⟩
                               have S29c : w13.cell? ⟨R20, 0, none⟩ = some (.int .i64 gv) ∧ w13.cell? ⟨R20, 1, none⟩ = some (.int .i64 0) := ⟨cell_of_row _ _ 0 _ _ _ ((m13.out.block R20 (Cd.ltH (HSG.out _ h12.out.2)) HKB.out.2).trans (HSG.out _ h12.out.2)), cell_of_row _ _ 1 _ _ _ ((m13.out.block R20 (Cd.ltH (HSG.out _ h12.out.2)) HKB.out.2).trans (HSG.out _ h12.out.2))⟩)
                            | (with_reducible refine (HGB.out w12 h12.out.1).mono ?_
                               rintro e w14 ⟨rfl, rfl⟩)
                            | (with_reducible refine HGA.out.mono ?_
                               rintro e w12 ⟨rfl, h12⟩
                               have S29b : w12.cell? ⟨R20, 0, none⟩ = some (.int .i64 gv) ∧ w12.cell? ⟨R20, 1, none⟩ = some (.int .i64 0) := ⟨cell_of_row _ _ 0 _ _ _ (HSG.out _ h12.out.2), cell_of_row _ _ 1 _ _ _ (HSG.out _ h12.out.2)⟩)
                            | (with_reducible refine HKA.out.mono ?_
                               rintro e w11' ⟨rfl, rfl⟩))
                        have HNX : Hid (Vm.PcR F1 F2 (Cd.fns l) T w2 F a' (r + 1) w13) := by
                          have hl : (Vm.giveS x.2 (M : Int) ⟨gv, 0⟩).left = x.2.left := by unfold Vm.giveS; split <;> rfl
                          exact ⟨Vm.giveS x.2 (M : Int) ⟨gv, 0⟩, _, _, h13.out.free (fun _ _ => trivial), Vm.give_ok HI2.out.ok _ _, by rw [hl]; have := HLE2.out.1; omega, by rw [hl]; exact HLE2.out.2⟩
                        go_wp2_with fail
                        have hr1 : r < 72 := HR72.out
                        go_roundw
                        case rel => exact ⟨a', r + 1, by omega, rfl, by go_num, HNX.out⟩
                        case measure => simp [intOf]; omega
              · have r1 : ¬ (r : Int) < 72 := by omega
                go_wp2_with fail
                refine (HAL.out _ (HBW.out.trans (HDU.out.bel.mono HBW.out.size))).mono ?_
                rintro e w5 ⟨rfl, hb5⟩
                go_wp2_with fail
                go_ret
                exact ⟨rfl, hb5⟩
end Go.Proofs.YtnlhacgihmelhaaGreatDoor
