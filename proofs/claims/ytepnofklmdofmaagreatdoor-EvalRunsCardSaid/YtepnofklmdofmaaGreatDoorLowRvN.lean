/-
  Layer 13: the document's Begin.
  Layer 13: the document's Step, whatever op; its Do.
-/
import Derived.Test.YtepnofklmdofmaaGreatDoorLowRvF
import Derived.Test.YtepnofklmdofmaaGreatDoorLowEvA
import Derived.BigRegion
import Derived.Test.YtepnofklmdofmaaGreatDoorLowRvM
import Derived.Test.YtepnofklmdofmaaGreatDoorRvJ
import Derived.Deep.DeepCutAuto
import Derived.Deep.CutBlock
section
namespace Go.Proofs.YtepnofklmdofmaaGreatDoor
open Go.RowKit

namespace Ev
/-- A task that the document has begun. -/
def RBegP (F : Value) (t : Tsk) (A : Option Addr) (c n : Nat) (w : World) (e : Ending) (w' : World) : Prop := ∃ B R, e = .returned (.pointer (some ⟨B, 0, none⟩)) ∧ Rn B R F (.slice none 0 0) (.slice none 0 0) t A c [] [] (beg0 t n) w' ∧ Below w.heap.size w w' ∧ w.heap.size ≤ B ∧ w.heap.size ≤ R
/-- Some arguments are in their registers. -/
def begK (t : Tsk) (n k : Nat) : St := ⟨t.args.take k ++ List.replicate (n - k) 0, 0, t.fuel, 0, [], []⟩
theorem begK_len {t : Tsk} {n k : Nat} (hk : k ≤ t.args.length) (hn : t.args.length ≤ n) : (begK t n k).regs.length = n := by
  show (t.args.take k ++ List.replicate (n - k) 0).length = n
  rw [List.length_append, List.length_take, List.length_replicate]
  omega
theorem begK_all (t : Tsk) (n : Nat) : begK t n t.args.length = beg0 t n := by
  unfold begK beg0 begR
  rw [List.take_length]
theorem begK_succ {t : Tsk} {n k : Nat} (hk : k < t.args.length) (hn : t.args.length ≤ n) : { begK t n k with regs := (begK t n k).regs.set k t.args[k] } = begK t n (k + 1) := by
  show (⟨(t.args.take k ++ List.replicate (n - k) 0).set k t.args[k], 0, t.fuel, 0, [], []⟩ : St) = _
  unfold begK
  have e : (t.args.take k ++ List.replicate (n - k) 0).set k t.args[k] = t.args.take (k + 1) ++ List.replicate (n - (k + 1)) 0 := by
    have hl : (t.args.take k).length = k := by rw [List.length_take]; omega
    rw [List.set_append_right _ _ (by omega), hl, Nat.sub_self, show n - k = (n - (k + 1)) + 1 by omega, List.replicate_succ, List.set_cons_zero, List.take_succ_eq_append_getElem hk, List.append_assoc]
    rfl
  rw [e]
end Ev

set_option maxHeartbeats 1000000 in
set_option maxRecDepth 20000 in
theorem rbegin13 (l : List Cd.Fm) (PA : Option Addr) (pc : Nat) (t : Ev.Tsk) (A : Option Addr) (c n : Nat) (fi : Nat) (w : World) (hP : Cd.Prog w w.heap.size PA l) (hl : Lies w w.heap.size A (icells t.args)) (hfi : t.fn = (fi : Int)) (hfl : fi < l.length) (hrn : l[fi].f.regs = (n : Int)) (hn : n ≤ 16) (ha : t.args.length ≤ n) :
    Calls Tryz.prog 43 #[.agg #[.slice PA l.length pc], t.val A c] w (Ev.RBegP (.slice PA l.length pc) t A c n w) := by
  have hmk : ∀ w : World, (Instr.makeSlice 25 (.int .i64 (n : Int)) (.int .i64 (n : Int))).run Tryz.prog w = .ok (.slice (some ⟨w.heap.size, 0, none⟩) n n) (w.alloc (.cells (madeCells #[.int .i64 0] n) 2)) := run_make_row' (P := Tryz.prog) 25 2 (.int .i64 0) 8 Tryz.underlying25 Ev.i64_info rfl .i64 .i64 n (by omega) (by omega)
  obtain ⟨V1, hV1⟩ : ∃ V, V = w.alloc (.cells #[.slice PA l.length pc] 24) := ⟨_, rfl⟩
  obtain ⟨V2, hV2⟩ : ∃ V, V = V1.alloc (.cells #[.string t.path, .int .i64 t.fn, .slice A t.args.length c, .int .i64 (t.fuel : Int)] 41) := ⟨_, rfl⟩
  unfold Ev.Tsk.val
  have hb1 : Below w.heap.size w V1 := by rw [hV1]; exact Cd.fn1 _ _ _
  have hs1 : V1.heap.size = w.heap.size + 1 := by rw [hV1]; simp
  have hb2 : Below V1.heap.size V1 V2 := by rw [hV2]; exact Cd.fn1 _ _ _
  have hs2 : V2.heap.size = w.heap.size + 2 := by rw [hV2]; simp; omega
  have hB2 : Below w.heap.size w V2 := hb1.trans (hb2.mono hb1.size)
  have hX : V2.heap[w.heap.size]? = some (.cells #[.slice PA l.length pc] 24 (0, 0)) := (hb2.block w.heap.size (by omega)).trans (by rw [hV1]; exact heap_alloc_new w _)
  have hT : V2.heap[w.heap.size + 1]? = some (.cells #[.string t.path, .int .i64 t.fn, .slice A t.args.length c, .int .i64 (t.fuel : Int)] 41 (0, 0)) := by rw [← hs1, hV2]; exact heap_alloc_new V1 _
  have hP2 := (hP.below hB2).mono hB2.size
  obtain ⟨ad, rfl, hadl, c0, c1, c2⟩ := Cd.fn_at hP2.fs hfl
  generalize l[fi] = m at c0 c1 c2 hrn
  obtain ⟨V3, hV3⟩ : ∃ V, V = V2.alloc (.cells #[.int .i64 m.f.args, .int .i64 m.f.regs, .slice m.A m.f.ops.length m.c] 107) := ⟨_, rfl⟩
  obtain ⟨V4, hV4⟩ : ∃ V, V = V3.alloc (.cells (madeCells #[.int .i64 0] n) 2) := ⟨_, rfl⟩
  obtain ⟨V5, hV5⟩ : ∃ V, V = (V4.alloc (.cells (Ev.rcs (.slice (some ad) l.length pc) (w.heap.size + 3) (.slice none 0 0) (.slice none 0 0) t A c [] (Ev.begK t n 0)) 77)).drew := ⟨_, rfl⟩
  have hb3 : Below V2.heap.size V2 V3 := by rw [hV3]; exact Cd.fn1 _ _ _
  have hs3 : V3.heap.size = w.heap.size + 3 := by rw [hV3]; simp; omega
  have hb4 : Below V3.heap.size V3 V4 := by rw [hV4]; exact Cd.fn1 _ _ _
  have hs4 : V4.heap.size = w.heap.size + 4 := by rw [hV4]; simp; omega
  have hb5 : Below V4.heap.size V4 V5 := by rw [hV5]; exact (Cd.fn1 _ _ _).drew
  have hs5 : V5.heap.size = w.heap.size + 5 := by rw [hV5]; show (World.alloc _ _).heap.size = _; simp; omega
  have hf3 : V3.heap[w.heap.size + 2]? = some (.cells #[.int .i64 m.f.args, .int .i64 m.f.regs, .slice m.A m.f.ops.length m.c] 107 (0, 0)) := by rw [← hs2, hV3]; exact heap_alloc_new V2 _
  have hX3 := (hb3.block w.heap.size (by omega)).trans hX
  have hT3 := (hb3.block (w.heap.size + 1) (by omega)).trans hT
  have hX4 := (hb4.block w.heap.size (by omega)).trans hX3
  have hT4 := (hb4.block (w.heap.size + 1) (by omega)).trans hT3
  have hf4 := (hb4.block (w.heap.size + 2) (by omega)).trans hf3
  have hT5 := (hb5.block (w.heap.size + 1) (by omega)).trans hT4
  have hR4 : V4.heap[w.heap.size + 3]? = some (.cells (madeCells #[.int .i64 0] n) 2 (0, 0)) := by rw [← hs3, hV4]; exact heap_alloc_new V3 _
  have hR5 : V5.heap[w.heap.size + 3]? = some (.cells (icells (Ev.begK t n 0).regs).toArray 2 (0, 0)) := by
    rw [hb5.block _ (by omega), hR4]
    have e : madeCells #[Value.int .i64 0] n = (icells (Ev.begK t n 0).regs).toArray := Array.ext' (by rw [toList_madeCells_one]; simp [icells, Ev.begK])
    rw [e]
  have hO5 : V5.heap[w.heap.size + 4]? = some (.cells (Ev.rcs (.slice (some ad) l.length pc) (w.heap.size + 3) (.slice none 0 0) (.slice none 0 0) t A c [] (Ev.begK t n 0)) 77 (0, 0)) := by rw [← hs4, hV5]; exact heap_alloc_new V4 _
  have hB5 : Below w.heap.size w V5 := hB2.trans ((hb3.trans ((hb4.mono (by omega)).trans (hb5.mono (by omega)))).mono hB2.size)
  have HRN : Hid (Ev.Rn (w.heap.size + 4) (w.heap.size + 3) (.slice (some ad) l.length pc) (.slice none 0 0) (.slice none 0 0) t A c [] [] (Ev.begK t n 0) V5 ∧ Below w.heap.size w V5 ∧ V5.heap[w.heap.size + 1]? = some (.cells #[.string t.path, .int .i64 t.fn, .slice A t.args.length c, .int .i64 (t.fuel : Int)] 41 (0, 0))) :=
    ⟨⟨hO5, hR5, ⟨rfl, .inl ⟨rfl, rfl⟩⟩, ⟨rfl, .inl ⟨rfl, rfl⟩⟩, rfl, by omega, by simp [Value.ownBlock], by simp [Value.ownBlock], by simp [Value.ownBlock], by simp [Value.ownBlock], fun i hi => by simp [Value.ownBlock] at hi⟩, hB5, hT5⟩
  obtain ⟨Z, hZ⟩ : ∃ Z, Z = w.heap.size := ⟨_, rfl⟩
  obtain ⟨Y, hY⟩ : ∃ Y, Y = V2.heap.size := ⟨_, rfl⟩
  have hYZ : w.heap.size + 2 = Y := by omega
  rw [hYZ] at hf3 hf4
  rw [← hZ] at hX hT hX3 hT3 hX4 hT4
  have x0 : V2.cell? ⟨Z, 0, none⟩ = some (.slice (some ad) l.length pc) := cell_of_row _ _ 0 _ _ _ hX
  have t1 : V2.cell? ⟨Z + 1, 1, none⟩ = some (.int .i64 (fi : Int)) := by rw [← hfi]; exact cell_of_row _ _ 1 _ _ _ hT
  rw [hrn] at c1 hf3 hf4 hV3
  have a0 : V3.cell? ⟨Z, 0, none⟩ = some (.slice (some ad) l.length pc) := cell_of_row _ _ 0 _ _ _ hX3
  have a1 : V3.cell? ⟨Z + 1, 0, none⟩ = some (.string t.path) := cell_of_row _ _ 0 _ _ _ hT3
  have a2 : V3.cell? ⟨Z + 1, 1, none⟩ = some (.int .i64 t.fn) := cell_of_row _ _ 1 _ _ _ hT3
  have a3 : V3.cell? ⟨Z + 1, 2, none⟩ = some (.slice A t.args.length c) := cell_of_row _ _ 2 _ _ _ hT3
  have a4 : V3.cell? ⟨Z + 1, 3, none⟩ = some (.int .i64 (t.fuel : Int)) := cell_of_row _ _ 3 _ _ _ hT3
  have a5 : V3.cell? ⟨Y, 1, none⟩ = some (.int .i64 (n : Int)) := cell_of_row _ _ 1 _ _ _ hf3
  rw [hV4] at hX4 hT4 hf4
  have b0 : (V3.alloc (.cells (madeCells #[.int .i64 0] n) 2)).cell? ⟨Z, 0, none⟩ = some (.slice (some ad) l.length pc) := cell_of_row _ _ 0 _ _ _ hX4
  have b1 : (V3.alloc (.cells (madeCells #[.int .i64 0] n) 2)).cell? ⟨Z + 1, 0, none⟩ = some (.string t.path) := cell_of_row _ _ 0 _ _ _ hT4
  have b2 : (V3.alloc (.cells (madeCells #[.int .i64 0] n) 2)).cell? ⟨Z + 1, 1, none⟩ = some (.int .i64 t.fn) := cell_of_row _ _ 1 _ _ _ hT4
  have b3 : (V3.alloc (.cells (madeCells #[.int .i64 0] n) 2)).cell? ⟨Z + 1, 2, none⟩ = some (.slice A t.args.length c) := cell_of_row _ _ 2 _ _ _ hT4
  have b4 : (V3.alloc (.cells (madeCells #[.int .i64 0] n) 2)).cell? ⟨Z + 1, 3, none⟩ = some (.int .i64 (t.fuel : Int)) := cell_of_row _ _ 3 _ _ _ hT4
  have f0 : (0 : Int) ≤ (fi : Int) := by omega
  have fl : (fi : Int) < (l.length : Int) := by omega
  have HZ : Hid (w.heap.size = Z ∧ V3.heap.size = Z + 3 ∧ V4.heap.size = Z + 4) := ⟨hZ.symm, by omega, by omega⟩
  rw [← hZ] at HRN hV5
  have HY := Lib.hid hY
  have HZ0 := Lib.hid hZ
  have HA := Lib.hid ha
  have HLI := Lib.hid hl
  have HN := Lib.hid hn
  clear hP hl hfi hfl hrn hn ha hb1 hs1 hb2 hs2 hB2 hX hT hP2 hadl hb3 hs3 hb4 hs4 hb5 hs5 hf3 hX3 hT3 hX4 hT4 hf4 hT5 hR4 hR5 hO5 hB5 hYZ hZ hY
  go_enter Tryz.func43, Tryz.ntmps43
  go_upto_region 1 with fail
  rw [← hV1, ← hV2, ← HZ0.out]
  clear hV1 hV2
  go_upto_region 2 with fail
  rw [← hV3, ← HY.out]
  clear hV3 x0 t1 c0 c1 c2
  go_region
  go_upto_region 3 with fail
  have hW : ((V3.alloc (.cells (madeCells #[.int .i64 0] n) 2)).alloc (.cells #[.slice (some ad) l.length pc, .string t.path, .int .i64 t.fn, .slice A t.args.length c, .int .i64 (t.fuel : Int), .slice (some ⟨V3.heap.size, 0, none⟩) n n, .int .i64 0, .int .i64 (t.fuel : Int), .int .i64 0, .int .i64 1, .slice none 0 0, .slice none 0 0] 77)).drew = V5 := by
    rw [hV5, hV4, HZ.out.2.1]
    unfold Ev.rcs
    rw [Ev.begK_len (Nat.zero_le _) HA.out]
    rfl
  rw [hW, show V3.heap.size + 1 = Z + 4 by have := HZ.out.2.1; omega]
  clear hW hV5 hV4 a0 a1 a2 a3 a4 a5 b0 b1 b2 b3 b4 hmk f0 fl
  go_wp2_with fail
  go_loopw [7] (fun s7 wr => ∃ k : Nat, k ≤ t.args.length ∧ s7 = .int .i64 k ∧ Hid (Ev.Rn (Z + 4) (Z + 3) (.slice (some ad) l.length pc) (.slice none 0 0) (.slice none 0 0) t A c [] [] (Ev.begK t n k) wr ∧ Below Z w wr ∧ wr.heap[Z + 1]? = some (.cells #[.string t.path, .int .i64 t.fn, .slice A t.args.length c, .int .i64 (t.fuel : Int)] 41 (0, 0)))) (fun s7 _ => t.args.length - (intOf s7).toNat)
  case atStart => exact ⟨0, Nat.zero_le _, rfl, HRN⟩
  case round =>
    obtain ⟨k, hk, rfl, HK⟩ := hrel
    have a2 : wr.cell? ⟨Z + 1, 2, none⟩ = some (.slice A t.args.length c) := cell_of_row _ _ 2 _ _ _ HK.out.2.2
    by_cases hlt : k < t.args.length
    · have k0 : (0 : Int) ≤ (k : Int) := by omega
      have k1 : (k : Int) < (t.args.length : Int) := by omega
      have k2 : (k : Int) < (n : Int) := by have := HA.out; omega
      have r2 : wr.cell? ⟨Z + 4, 5, none⟩ = some (.slice (some ⟨Z + 3, 0, none⟩) n n) := by
        have h := HK.out.1.cell 5
        unfold Ev.rcs at h
        rw [Ev.begK_len hk HA.out] at h
        exact h
      have hli : Lies wr wr.heap.size A (icells t.args) := (HLI.out.below (by rw [HZ.out.1]; exact HK.out.2.1)).mono HK.out.2.1.size
      obtain ⟨ae, rfl, _, hc⟩ := hli (by unfold icells; simp; omega)
      have v0 := hc k _ (icells_at hlt)
      have z0 : wr.frozen? ⟨Z + 3, k, none⟩ = false := HK.out.1.rfro k
      have HNEW : Hid (Ev.Rn (Z + 4) (Z + 3) (.slice (some ad) l.length pc) (.slice none 0 0) (.slice none 0 0) t (some ae) c [] [] (Ev.begK t n (k + 1)) (wr.setCell ⟨Z + 3, k, none⟩ (.int .i64 t.args[k])).drew ∧ Below Z w (wr.setCell ⟨Z + 3, k, none⟩ (.int .i64 t.args[k])).drew ∧ (wr.setCell ⟨Z + 3, k, none⟩ (.int .i64 t.args[k])).drew.heap[Z + 1]? = some (.cells #[.string t.path, .int .i64 t.fn, .slice (some ae) t.args.length c, .int .i64 (t.fuel : Int)] 41 (0, 0))) := by
        refine ⟨?_, ?_, ?_⟩
        · have h := HK.out.1.setR k t.args[k]
          rw [Ev.begK_succ hlt HA.out] at h
          exact h.drew
        · exact (HK.out.2.1.setCell (show Z ≤ Z + 3 by omega) _).drew
        · exact (Below.heap_setCell _ _ _ _ (show Z + 1 ≠ Z + 3 by omega)).trans HK.out.2.2
      have z1 := HK.out.1.reg (d := k) (by rw [Ev.begK_len hk HA.out]; omega)
      generalize (Ev.begK t n k).regs[k]'_ = y at z1
      generalize t.args[k] = x at v0 HNEW
      have HLT := Lib.hid hlt
      have hk16 : k ≤ 16 := by have h1 := HN.out; have h2 := HA.out; omega
      clear hlt hli hc
      go_wp2_with fail
      go_region
      generalize (wr.setCell ⟨Z + 3, k, none⟩ (.int .i64 x)).drew = w6 at HNEW ⊢
      go_wp2_with fail
      have hl1 : k < t.args.length := HLT.out
      go_roundw
      case rel => exact ⟨k + 1, by omega, by go_num, HNEW⟩
      case measure => simp [intOf]; omega
    · have k1 : ¬ (k : Int) < (t.args.length : Int) := by omega
      obtain rfl : k = t.args.length := by omega
      clear hlt
      go_wp2_with fail
      go_ret
      have h := HK.out.1
      rw [Ev.begK_all] at h
      exact ⟨Z + 4, Z + 3, rfl, h, by rw [HZ.out.1]; exact HK.out.2.1, by have := HZ.out.1; omega, by have := HZ.out.1; omega⟩
end Go.Proofs.YtepnofklmdofmaaGreatDoor
end

section
namespace Go.Proofs.YtepnofklmdofmaaGreatDoor
open Go.RowKit

namespace Ev
def stepE (s : St) (o : Cd.OpV) : Int := if s.left = 0 then 130 else if o.k ≤ 11 then plE (paid s) o else 0
def stepS (s : St) (o : Cd.OpV) : St := if s.left = 0 then s else if o.k ≤ 11 then plS (paid s) o else paid s
theorem stepS_wts (s : St) (o : Cd.OpV) : (stepS s o).wts = s.wts ∧ (stepS s o).kids = s.kids ∧ (stepS s o).done = s.done := by
  unfold stepS
  split
  · exact ⟨rfl, rfl, rfl⟩
  · split
    · unfold plS
      cases hp : plain (paid s) o with
      | none => exact ⟨rfl, rfl, rfl⟩
      | some s2 =>
        have := plain_left hp
        exact ⟨this.2.2.1, this.2.1, this.2.2.2⟩
    · exact ⟨rfl, rfl, rfl⟩
end Ev
theorem rstep {B R : Nat} {PA : Option Addr} {pc : Nat} {u v : Value} {t : Ev.Tsk} {A : Option Addr} {c : Nat} {js : List Int} {ds : List Ev.Dm} {s : Ev.St} {w : World} {l : List Cd.Fm} (h : Ev.Rn B R (.slice PA l.length pc) u v t A c js ds s w) (hP : Cd.Prog w w.heap.size PA l) (hG : ∀ f ∈ Cd.fns l, Ev.GoodF (Cd.fns l) f) (hT : Ev.TOk (Cd.fns l) t) (hs : Ev.SOk (Cd.fns l) t s) :
    Calls Tryz.prog 53 #[.pointer (some ⟨B, 0, none⟩)] w (Ev.RStepP B R (.slice PA l.length pc) u v t A c js ds (Ev.stepS s (Ev.opAt (Cd.fns l) t s)) (Ev.opAt (Cd.fns l) t s) (Ev.stepE s (Ev.opAt (Cd.fns l) t s)) w) := by
  obtain ⟨fi, hfi, hfl⟩ := hT.fn
  have hfl2 : fi < l.length := by rw [← Cd.fns_len l]; exact hfl
  have hfo : Ev.fnOf (Cd.fns l) t = l[fi].f := by
    unfold Ev.fnOf
    rw [hfi, Int.toNat_natCast, List.getElem?_eq_getElem hfl]
    simp [Cd.fns]
  have hat : s.at_ < l[fi].f.ops.length := by rw [← hfo]; exact hs.at_
  have ho : Ev.opAt (Cd.fns l) t s = l[fi].f.ops[s.at_] := by
    unfold Ev.opAt
    rw [hfo, List.getElem?_eq_getElem hat]
    rfl
  obtain ⟨g, _⟩ := Ev.opAt_good hT hG hs
  have h64 : s.at_ ≤ 64 := by
    have := (hG _ hT.mem).len
    have := hs.at_
    omega
  have hgk := g.k
  rw [ho] at g hgk ⊢
  unfold Ev.stepE Ev.stepS
  by_cases h0 : s.left = 0
  · rw [if_pos h0, if_pos h0]
    exact rstep_zero h hP fi hfi hfl2 hat h0
  · rw [if_neg h0, if_neg h0]
    by_cases hk : l[fi].f.ops[s.at_].k ≤ 11
    · rw [if_pos hk, if_pos hk]
      exact rstep_plain h hP fi hfi hfl2 hat h0 hs.left h64 hk g hs.regs
    · rw [if_neg hk, if_neg hk]
      exact rstep_wait h hP fi hfi hfl2 hat h0 hs.left h64 ⟨by omega, hgk.2⟩
end Go.Proofs.YtepnofklmdofmaaGreatDoor
end
