/-
  Layer 14: the contract of New.
-/
import Derived.Test.YtnlhacgihmelhaaGreatDoorLowVmP
import Derived.Test.YtnlhacgihmelhaaGreatDoorLowChF
namespace Go.Proofs.YtnlhacgihmelhaaGreatDoor
open Go.RowKit

namespace Vm
open Cd Ev
/-- Why there is no frame of a task; 0: there is one. -/
def newE (p : List FnV) (path : ByteArray) (fn : Int) (n : Nat) (fuel : Int) : Int :=
  if (Ck.chk p).1 ≠ 0 then ((Ck.chk p).1 : Int)
  else if Br.may path = false ∨ fn < 0 ∨ (p.length : Int) ≤ fn ∨ fuel < 0 ∨ 65536 < fuel then 2
  else if ((n : Int) ≠ (p[fn.toNat]?.getD default).args) then 2 else 0
theorem newE_ok {p : List FnV} {path : ByteArray} {fn : Int} {xs : List Int} {fuel : Int} (h : newE p path fn xs.length fuel = 0) : (fuel.toNat : Int) = fuel ∧ PE p ⟨path, fn, xs, fuel.toNat⟩ := by
  unfold newE at h
  split at h
  · rename_i h1
    omega
  · rename_i h1
    split at h
    · cases h
    · rename_i h2
      split at h
      · cases h
      · rename_i h3
        have hc : (Ck.chk p).1 = 0 := by simpa using h1
        have h3' : ((xs.length : Int) = (p[fn.toNat]?.getD default).args) := by simpa using h3
        have hm : Br.may path = true := by
          cases hx : Br.may path with
          | true => rfl
          | false => exact absurd (.inl hx) h2
        refine ⟨by omega, pe_of hc ⟨⟨fn.toNat, by show fn = _; omega, by omega⟩, h3', hm, by show fuel.toNat ≤ _; omega⟩⟩
def NewP (p : List FnV) (path : ByteArray) (fn : Int) (xs : List Int) (fuel : Int) (w : World) (e : Ending) (w' : World) : Prop :=
  Below w.heap.size w w' ∧ ((newE p path fn xs.length fuel ≠ 0 ∧ e = .returned (.tuple #[.pointer none, .int .i64 (newE p path fn xs.length fuel)])) ∨
    (newE p path fn xs.length fuel = 0 ∧ ∃ (V : Nat) (b : Bk), e = .returned (.tuple #[.pointer (some ⟨V, 0, none⟩), .int .i64 0]) ∧ (∀ K : Nat → Prop, (∀ i, w.heap.size ≤ i → K i) → Own K V b p ⟨path, fn, xs, fuel.toNat⟩ (startF p ⟨path, fn, xs, fuel.toNat⟩) w') ∧ w.heap.size ≤ V ∧ ∀ i, i < w.heap.size → KOff b i))
theorem NewP.no {p : List FnV} {path : ByteArray} {fn : Int} {xs : List Int} {fuel : Int} {w w' : World} {E : Int} (hE : newE p path fn xs.length fuel = E) (h0 : E ≠ 0) (hb : Below w.heap.size w w') : NewP p path fn xs fuel w (.returned (.tuple #[.pointer none, .int .i64 E])) w' :=
  ⟨hb, .inl ⟨by rw [hE]; exact h0, by rw [hE]⟩⟩
end Vm

set_option maxHeartbeats 2000000 in
set_option maxRecDepth 20000 in
theorem vNew (l : List Cd.Fm) (hR : ∀ m ∈ l, m.f.Rng) (hn : l.length ≤ maxLen) (PA : Option Addr) (pc : Nat) (path : ByteArray) (hpz : path.size ≤ 1000000) (fn : Int) (xs : List Int) (fuel : Int) (A : Option Addr) (c : Nat) (w : World) (hP : Cd.Prog w w.heap.size PA l) (hL : Ck.Laid w) (hl : Lies w w.heap.size A (icells xs)) :
    Calls Tryz.prog 19 #[.agg #[.slice PA l.length pc], .agg #[.string path, .int .i64 fn, .slice A xs.length c, .int .i64 fuel]] w (Vm.NewP (Cd.fns l) path fn xs fuel w) := by
  obtain ⟨V1, hV1⟩ : ∃ V, V = w.alloc (.cells #[.slice PA l.length pc] 24) := ⟨_, rfl⟩
  obtain ⟨V2, hV2⟩ : ∃ V, V = V1.alloc (.cells #[.string path, .int .i64 fn, .slice A xs.length c, .int .i64 fuel] 41) := ⟨_, rfl⟩
  have hb1 : Below w.heap.size w V1 := by rw [hV1]; exact Cd.fn1 _ _ _
  have hs1 : V1.heap.size = w.heap.size + 1 := by rw [hV1]; simp
  have hb2 : Below V1.heap.size V1 V2 := by rw [hV2]; exact Cd.fn1 _ _ _
  have hB2 : Below w.heap.size w V2 := hb1.trans (hb2.mono hb1.size)
  have hX : V2.heap[w.heap.size]? = some (.cells #[.slice PA l.length pc] 24 (0, 0)) := (hb2.block w.heap.size (by omega)).trans (by rw [hV1]; exact heap_alloc_new w _)
  have hT : V2.heap[w.heap.size + 1]? = some (.cells #[.string path, .int .i64 fn, .slice A xs.length c, .int .i64 fuel] 41 (0, 0)) := by rw [← hs1, hV2]; exact heap_alloc_new V1 _
  have HMY := Lib.hid (kMay PA pc l V2 hR hn ((hP.below hB2).mono hB2.size) (hL.later hB2))
  have HB2 := Lib.hid hB2
  have HXR := Lib.hid hX
  have HTR := Lib.hid hT
  have HP := Lib.hid hP
  have HLI := Lib.hid hl
  have HNN := Lib.hid hn
  have HPZ := Lib.hid hpz
  have HBM : Hid (∀ U, Calls Tryz.prog 42 #[.string path] U fun e w' => e = .returned (.bool (Br.may path)) ∧ U = w') := fun U => bMay path U hpz
  have x0 : V2.cell? ⟨w.heap.size, 0, none⟩ = some (.slice PA l.length pc) := cell_of_row _ _ 0 _ _ _ hX
  clear hb1 hb2 hB2 hX hT hR hn hP hL hl hpz
  go_enter Tryz.func19, Tryz.ntmps19
  go_upto_region 1 with fail
  rw [← hV1, ← hV2]
  clear hV1 hV2 hs1
  obtain ⟨Z, hZe⟩ : ∃ Z, Z = w.heap.size := ⟨_, rfl⟩
  rw [← hZe] at x0 HXR HTR ⊢
  have HZE := Lib.hid hZe
  clear hZe
  go_wp2_with fail
  refine HMY.out.mono ?_
  rintro e w1 ⟨rfl, hb1⟩
  have hbw : Below w.heap.size w w1 := HB2.out.trans (hb1.mono HB2.out.size)
  have hX1 := (hb1.block Z (Cd.ltH HXR.out)).trans HXR.out
  have hT1 := (hb1.block (Z + 1) (Cd.ltH HTR.out)).trans HTR.out
  have HBW := Lib.hid hbw
  have HDF : Hid (Vm.newE (Cd.fns l) path fn xs.length fuel = if (Ck.chk (Cd.fns l)).1 ≠ 0 then ((Ck.chk (Cd.fns l)).1 : Int) else if Br.may path = false ∨ fn < 0 ∨ (l.length : Int) ≤ fn ∨ fuel < 0 ∨ 65536 < fuel then 2 else if ((xs.length : Int) ≠ ((Cd.fns l)[fn.toNat]?.getD default).args) then 2 else 0) := by
    show _ = _
    unfold Vm.newE
    rw [Cd.fns_len]
  have x0 : w1.cell? ⟨Z, 0, none⟩ = some (.slice PA l.length pc) := cell_of_row _ _ 0 _ _ _ hX1
  have t0 : w1.cell? ⟨Z + 1, 0, none⟩ = some (.string path) := cell_of_row _ _ 0 _ _ _ hT1
  have t1 : w1.cell? ⟨Z + 1, 1, none⟩ = some (.int .i64 fn) := cell_of_row _ _ 1 _ _ _ hT1
  have t2 : w1.cell? ⟨Z + 1, 2, none⟩ = some (.slice A xs.length c) := cell_of_row _ _ 2 _ _ _ hT1
  have t3 : w1.cell? ⟨Z + 1, 3, none⟩ = some (.int .i64 fuel) := cell_of_row _ _ 3 _ _ _ hT1
  clear hb1 hbw hX1 hT1 HMY
  obtain ⟨ce, hce⟩ : ∃ n, n = (Ck.chk (Cd.fns l)).1 := ⟨_, rfl⟩
  rw [← hce] at HDF ⊢
  have HCE := Lib.hid hce
  clear hce
  generalize (Ck.chk (Cd.fns l)).2.1 = g1
  generalize (Ck.chk (Cd.fns l)).2.2 = g2
  by_cases hc : ce = 0
  · subst hc
    have hz0 : (((0 : Nat) : Int) != 0) = false := rfl
    cases hm : Br.may path with
    | false =>
      have HE : Hid (Vm.newE (Cd.fns l) path fn xs.length fuel = 2) := by show _ = _; rw [HDF.out, if_neg (by simp), if_pos (.inl hm)]
      rw [hm] at HBM
      clear hm
      go_wp2_with fail
      refine (HBM.out _).mono ?_
      rintro e w2 ⟨rfl, rfl⟩
      go_wp2_with fail
      refine bodyPost_ret (results_tmp2 rfl _ _ _) rfl ?_
      exact Vm.NewP.no HE.out (by decide) HBW.out
    | true =>
      rw [hm] at HBM
      by_cases h0 : fn < 0
      · have HE : Hid (Vm.newE (Cd.fns l) path fn xs.length fuel = 2) := by
          have hq := h0
          show _ = _
          rw [HDF.out, if_neg (by simp), if_pos (.inr (.inl hq))]
        clear hm
        go_wp2_with fail
        refine (HBM.out _).mono ?_
        rintro e w2 ⟨rfl, rfl⟩
        go_wp2_with fail
        refine bodyPost_ret (results_tmp2 rfl _ _ _) rfl ?_
        exact Vm.NewP.no HE.out (by decide) HBW.out
      · by_cases h1 : (l.length : Int) ≤ fn
        · have HE : Hid (Vm.newE (Cd.fns l) path fn xs.length fuel = 2) := by
            have hq := h1
            show _ = _
            rw [HDF.out, if_neg (by simp), if_pos (.inr (.inr (.inl hq)))]
          clear hm
          go_wp2_with fail
          refine (HBM.out _).mono ?_
          rintro e w2 ⟨rfl, rfl⟩
          go_wp2_with fail
          refine bodyPost_ret (results_tmp2 rfl _ _ _) rfl ?_
          exact Vm.NewP.no HE.out (by decide) HBW.out
        · by_cases h2 : fuel < 0
          · have HE : Hid (Vm.newE (Cd.fns l) path fn xs.length fuel = 2) := by
              have hq := h2
              show _ = _
              rw [HDF.out, if_neg (by simp), if_pos (.inr (.inr (.inr (.inl hq))))]
            clear hm
            go_wp2_with fail
            refine (HBM.out _).mono ?_
            rintro e w2 ⟨rfl, rfl⟩
            go_wp2_with fail
            refine bodyPost_ret (results_tmp2 rfl _ _ _) rfl ?_
            exact Vm.NewP.no HE.out (by decide) HBW.out
          · by_cases h3 : 65536 < fuel
            · have HE : Hid (Vm.newE (Cd.fns l) path fn xs.length fuel = 2) := by
                have hq := h3
                show _ = _
                rw [HDF.out, if_neg (by simp), if_pos (.inr (.inr (.inr (.inr hq))))]
              clear hm
              go_wp2_with fail
              refine (HBM.out _).mono ?_
              rintro e w2 ⟨rfl, rfl⟩
              go_wp2_with fail
              refine bodyPost_ret (results_tmp2 rfl _ _ _) rfl ?_
              exact Vm.NewP.no HE.out (by decide) HBW.out
            · obtain ⟨fi, hfi⟩ : ∃ fi : Nat, fn = (fi : Int) := ⟨fn.toNat, by omega⟩
              subst hfi
              have hfl : fi < l.length := by omega
              have hfg : ((Cd.fns l)[((fi : Nat) : Int).toNat]?.getD default).args = l[fi].f.args := by
                rw [Int.toNat_natCast]
                unfold Cd.fns
                rw [List.getElem?_map, List.getElem?_eq_getElem hfl]
                rfl
              have HDF2 : Hid (Vm.newE (Cd.fns l) path fi xs.length fuel = if ((xs.length : Int) ≠ l[fi].f.args) then 2 else 0) := by
                show _ = _
                rw [HDF.out, if_neg (by simp), if_neg (by
                  intro hh
                  rcases hh with hh | hh | hh | hh | hh
                  · rw [hm] at hh; cases hh
                  · omega
                  · omega
                  · omega
                  · omega), hfg]
              have hP1 := (HP.out.below HBW.out).mono HBW.out.size
              obtain ⟨ad, rfl, -, f0, f1, f2⟩ := Cd.fn_at hP1.fs hfl
              have HP1 := Lib.hid hP1
              have hl1 := (HLI.out.below HBW.out).mono HBW.out.size
              have HL1 := Lib.hid hl1
              have q0 : (0 : Int) ≤ (fi : Int) := by omega
              have q1 : (fi : Int) < (l.length : Int) := by omega
              obtain ⟨ar, har⟩ : ∃ ar, ar = l[fi].f.args := ⟨_, rfl⟩
              rw [← har] at f0 HDF2
              clear hP1 hl1 hfg har f1 f2 hfl HDF hm
              by_cases h5 : (xs.length : Int) = ar
              · have HE : Hid (Vm.newE (Cd.fns l) path fi xs.length fuel = 0) := by show _ = _; rw [HDF2.out, if_neg (by simpa using h5)]
                obtain ⟨hfu, hpe⟩ := Vm.newE_ok HE.out
                obtain ⟨F, hF⟩ : ∃ F : Nat, fuel = (F : Int) := ⟨fuel.toNat, by omega⟩
                subst hF
                have e5 : ((xs.length : Int) != ar) = false := by simpa using h5
                have HBG := Lib.hid (fun U (hU : Below w1.heap.size w1 U) => vbegin l (some ad) pc ⟨path, (fi : Int), xs, F⟩ A c U ((HP1.out.below hU).mono hU.size) (by have := hpe.len; rw [Cd.fns_len] at this; exact this) hpe.good hpe.tok ((HL1.out.below hU).mono hU.size) HPZ.out)
                clear hfu hpe h5
                go_wp2_with fail
                refine (HBM.out _).mono ?_
                rintro e w2 ⟨rfl, rfl⟩
                go_upto_region 10 with fail
                go_region
                go_wp2_with fail
                refine (HBG.out _ (by first | exact Below.refl _ _ | exact (Below.refl _ _).drew)).mono ?_
                rintro e w4 ⟨b, rfl, hK, hb4, hF4, hR4, hu4⟩
                have HFIN : Hid (Vm.NewP (Cd.fns l) path fi xs F w (.returned (.tuple #[.pointer (some ⟨w4.heap.size, 0, none⟩), .int .i64 0])) (w4.alloc (.cells #[.pointer (some ⟨b.F, 0, none⟩)] 114))) := by
                  have h1 : Below w.heap.size w w4 := HBW.out.drew.trans (hb4.mono HBW.out.size)
                  have h2 := HBW.out.size
                  have hbn : Below w4.heap.size w4 (w4.alloc (.cells #[.pointer (some ⟨b.F, 0, none⟩)] 114)) := Cd.fn1 _ _ _
                  refine ⟨h1.trans (hbn.mono h1.size), .inr ⟨HE.out, w4.heap.size, b, rfl, fun K hKK => ?_, h1.size, fun i hi => ⟨fun e => ?_, fun e => ?_, by rw [hu4]; simp [Value.ownBlock]⟩⟩⟩
                  · have hf := hK K (fun i hi => hKK i (Nat.le_trans h2 hi))
                    exact ⟨heap_alloc_new w4 _, hf.fr.lt _ (Nat.le_refl _), hKK _ h1.size, hf.below hbn⟩
                  · have : w1.heap.size ≤ b.F := hF4
                    omega
                  · have : w1.heap.size ≤ b.R := hR4
                    omega
                clear hK hb4 hF4 hR4 hu4
                go_wp2_with fail
                refine bodyPost_ret (results_tmp2 rfl _ _ _) rfl ?_
                exact HFIN.out
              · have HE : Hid (Vm.newE (Cd.fns l) path fi xs.length fuel = 2) := by show _ = _; rw [HDF2.out, if_pos h5]
                have e5 : ((xs.length : Int) != ar) = true := by simpa using h5
                clear h5
                go_wp2_with fail
                refine (HBM.out _).mono ?_
                rintro e w2 ⟨rfl, rfl⟩
                go_upto_region 10 with fail
                go_region
                go_wp2_with fail
                refine bodyPost_ret (results_tmp2 rfl _ _ _) rfl ?_
                exact Vm.NewP.no HE.out (by decide) HBW.out.drew
  · have HE : Hid (Vm.newE (Cd.fns l) path fn xs.length fuel = (ce : Int)) := by show _ = _; rw [HDF.out, if_pos hc]
    have hz0 : ((ce : Int) != 0) = true := by simpa using hc
    have HC0 : Hid ((ce : Int) ≠ 0) := by show _ ≠ _; omega
    clear hc
    go_wp2_with fail
    refine bodyPost_ret (results_tmp2 rfl _ _ _) rfl ?_
    exact Vm.NewP.no HE.out HC0.out HBW.out
end Go.Proofs.YtnlhacgihmelhaaGreatDoor
