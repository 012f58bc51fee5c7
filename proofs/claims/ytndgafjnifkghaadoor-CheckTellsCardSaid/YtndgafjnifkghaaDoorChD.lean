/-
  Contracts of check.wrongEnd, wrongFunc, wrong.
-/
import Derived.Test.YtndgafjnifkghaaDoorChC
namespace Go.Proofs.YtndgafjnifkghaaDoor
open Go.RowKit

namespace Ck
open Cd
/-- An error: none, or a fault. -/
def errV (e : Nat × Nat × Nat) : Value := if e.1 = 0 then .nilIface else .iface 46 (.agg #[.int .i64 (e.1 : Int), .int .i64 (e.2.1 : Int), .int .i64 (e.2.2 : Int)])
theorem errV_no {e : Nat × Nat × Nat} (h : e.1 = 0) : errV e = .nilIface := by unfold errV; rw [if_pos h]
theorem errV_is {e : Nat × Nat × Nat} (h : e.1 ≠ 0) : errV e = .iface 46 (.agg #[.int .i64 (e.1 : Int), .int .i64 (e.2.1 : Int), .int .i64 (e.2.2 : Int)]) := by unfold errV; rw [if_neg h]
theorem endE_nil {f : FnV} (h : f.ops.length = 0) : endE f = (113, 0) := by
  unfold endE
  rw [List.eq_nil_of_length_eq_zero h]
  rfl
theorem endE_last {f : FnV} (h : f.ops.length - 1 < f.ops.length) : endE f = if ends (f.ops[f.ops.length - 1]).k then (0, 0) else (113, f.ops.length - 1) := by
  unfold endE
  rw [List.getLast?_eq_getElem?, List.getElem?_eq_getElem h]
end Ck

set_option maxHeartbeats 1000000 in
set_option maxRecDepth 20000 in
theorem kwrongEnd (A : Option Addr) (c : Nat) (l : List Cd.Fm) (w : World) (hP : Ck.PrgP w A l) (i : Nat) (hi : i < l.length) :
    Calls Tryd.prog 35 #[.agg #[.slice A l.length c], .int .i64 (i : Int)] w fun e w' => e = .returned (Ck.errV ((Ck.endE l[i].f).1, i, (Ck.endE l[i].f).2)) ∧ Below w.heap.size w w' := by
  obtain ⟨W, hW⟩ : ∃ W, W = w.alloc (.cells #[.slice A l.length c] 24) := ⟨_, rfl⟩
  have hb : Below w.heap.size w W := by rw [hW]; exact Cd.fn1 _ _ _
  have hX : Cd.PBlk W w.heap.size (.slice A l.length c) := by show W.heap[_]? = _; rw [hW]; exact heap_alloc_new w _
  have HB := Lib.hid hb
  have p0 := hX.c0
  have hn := hP.n
  have i0 : (0 : Int) ≤ (i : Int) := by omega
  have i1 : (i : Int) < (l.length : Int) := by omega
  obtain ⟨ad, rfl, -, -, -, d2⟩ := Cd.fn_at (hP.p.below hb).fs hi
  have hli := (hP.p.below hb).os _ (List.getElem_mem hi)
  have hlen := (hP.r _ (List.getElem_mem hi)).len
  unfold maxLen at hlen
  generalize l[i] = m at d2 hli hlen ⊢
  by_cases h0 : m.f.ops.length = 0
  · have HE : Hid (Ck.endE m.f = (113, 0)) := Ck.endE_nil h0
    have e0 : ((m.f.ops.length : Int) == 0) = true := by rw [beq_iff_eq]; omega
    clear h0 hX hb hP hi hli
    go_enter Tryd.func35, Tryd.ntmps35
    go_upto_region 1 with fail
    rw [← hW]
    clear hW
    go_wp2_with fail
    go_ret
    exact ⟨by rw [HE.out]; rfl, HB.out⟩
  · have hlast : m.f.ops.length - 1 < m.f.ops.length := by omega
    have HE := Lib.hid (Ck.endE_last hlast)
    obtain ⟨N, hN⟩ : ∃ N, N = m.f.ops.length - 1 := ⟨_, rfl⟩
    have hsub : IntKind.i64.wrap ((m.f.ops.length : Int) - 1) = (N : Int) := by rw [IntKind.wrap_i64]; omega
    have e0 : ((m.f.ops.length : Int) == 0) = false := by rw [beq_eq_false_iff_ne]; omega
    have n0 : (0 : Int) ≤ (N : Int) := by omega
    have n1 : (N : Int) < (m.f.ops.length : Int) := by omega
    obtain ⟨ado, hA, -, c0, -, -, -, -⟩ := Cd.op_at hli hlast
    rw [hA] at d2
    have HE2 : Hid (∃ k : Nat, W.cell? (ado.add (N * 5)) = some (.int .u8 (k : Int)) ∧ Ck.endE m.f = if Ck.ends k then (0, 0) else (113, N)) := by
      refine ⟨(m.f.ops[m.f.ops.length - 1]).k, ?_, ?_⟩
      · rw [hN]; exact c0
      · rw [HE.out, hN]
    clear HE
    obtain ⟨k, ck, hE⟩ := HE2.out
    have HE := Lib.hid hE
    clear HE2 hE c0 hN hlast hA hli h0 hX hb hP hi
    by_cases hk : k = 10
    · have HEE : Hid (Ck.endE m.f = (0, 0)) := by show _ = _; rw [HE.out, hk]; rfl
      have hke : (k : Int) = 10 := by omega
      rw [hke] at ck
      clear hk hke HE
      go_enter Tryd.func35, Tryd.ntmps35
      go_upto_region 1 with fail
      rw [← hW]
      clear hW
      go_wp2_with fail
      go_ret
      exact ⟨by rw [HEE.out]; rfl, HB.out⟩
    · by_cases hk2 : k = 14
      · have HEE : Hid (Ck.endE m.f = (0, 0)) := by show _ = _; rw [HE.out, hk2]; rfl
        have hke : (k : Int) = 14 := by omega
        rw [hke] at ck
        clear hk hk2 hke HE
        go_enter Tryd.func35, Tryd.ntmps35
        go_upto_region 1 with fail
        rw [← hW]
        clear hW
        go_wp2_with fail
        go_ret
        exact ⟨by rw [HEE.out]; rfl, HB.out⟩
      · have HEE : Hid (Ck.endE m.f = (113, N)) := by show _ = _; rw [HE.out]; unfold Ck.ends; rw [decide_eq_false hk, decide_eq_false hk2]; rfl
        have k1 : ((k : Int) != 10) = true := by simpa using (by omega : ¬ (k : Int) = 10)
        have k2 : ((k : Int) != 14) = true := by simpa using (by omega : ¬ (k : Int) = 14)
        clear hk hk2 HE
        go_enter Tryd.func35, Tryd.ntmps35
        go_upto_region 1 with fail
        rw [← hW]
        clear hW
        go_wp2_with fail
        go_ret
        exact ⟨by rw [HEE.out]; rfl, HB.out⟩

set_option maxHeartbeats 1000000 in
set_option maxRecDepth 20000 in
theorem kwrongFunc (A : Option Addr) (c : Nat) (l : List Cd.Fm) (w : World) (hP : Ck.PrgP w A l) (i : Nat) (hi : i < l.length) :
    Calls Tryd.prog 25 #[.agg #[.slice A l.length c], .int .i64 (i : Int)] w fun e w' => e = .returned (Ck.errV ((Ck.fnE (Cd.fns l) l[i].f).1, i, (Ck.fnE (Cd.fns l) l[i].f).2)) ∧ Below w.heap.size w w' := by
  obtain ⟨W, hW⟩ : ∃ W, W = w.alloc (.cells #[.slice A l.length c] 24) := ⟨_, rfl⟩
  have hb : Below w.heap.size w W := by rw [hW]; exact Cd.fn1 _ _ _
  have hX : Cd.PBlk W w.heap.size (.slice A l.length c) := by show W.heap[_]? = _; rw [hW]; exact heap_alloc_new w _
  have HB := Lib.hid hb
  have p0 := hX.c0
  have hn := hP.n
  have i0 : (0 : Int) ≤ (i : Int) := by omega
  have i1 : (i : Int) < (l.length : Int) := by omega
  have HPW := Lib.hid (hP.later hb)
  have HEND : Hid (∀ U, Ck.PrgP U A l → Calls Tryd.prog 35 #[.agg #[.slice A l.length c], .int .i64 (i : Int)] U fun e w' => e = .returned (Ck.errV ((Ck.endE l[i].f).1, i, (Ck.endE l[i].f).2)) ∧ Below U.heap.size U w') := fun U hU => kwrongEnd A c l U hU i hi
  have hmem := List.getElem_mem hi
  have HLI := Lib.hid (HPW.out.p.os _ hmem)
  have HRM := Lib.hid (hP.r _ hmem)
  obtain ⟨-, -, h64, hops⟩ := Cd.FnV.ok_parts (hP.k _ hmem)
  have HOPS := Lib.hid hops
  obtain ⟨ad, rfl, -, d0, d1, d2⟩ := Cd.fn_at (hP.p.below hb).fs hi
  have HFE : Hid (Ck.fnE (Cd.fns l) l[i].f = if l[i].f.regs < l[i].f.args then (110, 0) else if (Ck.opsE (Cd.fns l) l[i].f l[i].f.ops 0).1 = 0 then Ck.endE l[i].f else Ck.opsE (Cd.fns l) l[i].f l[i].f.ops 0) := rfl
  generalize l[i] = m at d0 d1 d2 HLI HRM HOPS h64 HEND HFE ⊢
  obtain ⟨g, AO, mc⟩ := m
  dsimp only at d0 d1 d2 HLI HRM HOPS h64 HEND HFE ⊢
  obtain ⟨V, hV⟩ : ∃ V, V = W.alloc (.cells #[.int .i64 g.args, .int .i64 g.regs, .slice AO g.ops.length mc] 41) := ⟨_, rfl⟩
  have hbV : Below W.heap.size W V := by rw [hV]; exact Cd.fn1 _ _ _
  have HFB : Hid (Cd.FB V W.heap.size g.args g.regs (.slice AO g.ops.length mc) ∧ Cd.PBlk V w.heap.size (.slice (some ad) l.length c)) := ⟨by show V.heap[_]? = _; rw [hV]; exact heap_alloc_new W _, hX.of_block (hbV.block _ hX.lt)⟩
  have HBV := Lib.hid (hb.trans (hbV.mono hb.size))
  have HPV := Lib.hid (HPW.out.later hbV)
  have HLV := Lib.hid ((HLI.out.below hbV).mono hbV.size)
  have hWs : W.heap.size = w.heap.size + 1 := by rw [hW]; simp
  clear hX hb hP hmem hops hi HPW HLI hbV
  go_enter Tryd.func25, Tryd.ntmps25
  go_upto_region 1 with fail
  rw [← hW]
  clear hW
  go_upto_region 2 with fail
  rw [← hV]
  clear hV p0 d0 d1 d2
  rw [hWs] at HFB
  clear hWs
  obtain ⟨X, hX⟩ : ∃ X, X = w.heap.size := ⟨_, rfl⟩
  obtain ⟨F, hF⟩ : ∃ F, F = X + 1 := ⟨_, rfl⟩
  rw [← hX, ← hF] at HFB
  rw [← hX, ← hF]
  clear hX hF
  have f0 := HFB.out.1.c0
  have f1 := HFB.out.1.c1
  have f2 := HFB.out.1.c2
  by_cases hra : g.regs < g.args
  · have HE : Hid (Ck.fnE (Cd.fns l) g = (110, 0)) := HFE.out.trans (if_pos hra)
    have hd : decide (g.regs < g.args) = true := by simpa using hra
    clear HFE
    go_wp2_with fail
    go_ret
    exact ⟨by rw [HE.out]; rfl, HBV.out⟩
  · have HE0 := Lib.hid (HFE.out.trans (if_neg hra))
    have hd : decide (g.regs < g.args) = false := by simpa using hra
    clear HFE
    go_wp2_with fail
    clear f0 f1 f2
    go_loopw [25] (fun s25 wr => ∃ k : Nat, k ≤ g.ops.length ∧ s25 = .int .i64 k ∧ Hid (∀ j (hj : j < g.ops.length), j < k → Ck.opE (Cd.fns l) g g.ops[j] = 0) ∧ Hid (Below V.heap.size V wr)) (fun s25 _ => g.ops.length - (intOf s25).toNat)
    case atStart => exact ⟨0, Nat.zero_le _, rfl, (show Hid _ from fun j _ h => by omega), Below.refl _ _⟩
    case round =>
      obtain ⟨k, hk, rfl, HK, HBW⟩ := hrel
      by_cases hlt : k < g.ops.length
      · obtain ⟨ado, rfl, -, c0, c1, c2, c3, c4⟩ := Cd.op_at (HLV.out.below HBW.out) hlt
        have k0 : (0 : Int) ≤ (k : Int) := by omega
        have k1 : (k : Int) < (g.ops.length : Int) := by omega
        have HWO : Hid (∀ U, Ck.PrgP U (some ad) l → Calls Tryd.prog 34 #[.agg #[.slice (some ad) l.length c], .agg #[.int .i64 g.args, .int .i64 g.regs, .slice (some ado) g.ops.length mc], .agg #[.int .u8 (g.ops[k].k : Int), .int .i64 g.ops[k].d, .int .i64 g.ops[k].a, .int .i64 g.ops[k].b, .int .i64 g.ops[k].n]] U
          fun e w' => e = .returned (.int .i64 (Ck.opE (Cd.fns l) g g.ops[k] : Int)) ∧ Below U.heap.size U w') := fun U hU => kwrongOp (some ad) c l U hU (⟨g, some ado, mc⟩ : Cd.Fm) h64 g.ops[k] (HOPS.out _ (List.getElem_mem hlt))
        have HK2 : Hid (Ck.opE (Cd.fns l) g g.ops[k] = 0 → ∀ j (hj : j < g.ops.length), j < k + 1 → Ck.opE (Cd.fns l) g g.ops[j] = 0) := fun h j hj hjk => by
          rcases Nat.lt_succ_iff_lt_or_eq.1 hjk with h1 | rfl
          · exact HK.out j hj h1
          · exact h
        have HK3 : Hid (Ck.opE (Cd.fns l) g g.ops[k] ≠ 0 → Ck.fnE (Cd.fns l) g = (Ck.opE (Cd.fns l) g g.ops[k], k)) := fun h => by
          have := Ck.opsE_at (j := 0) HK.out hlt h
          rw [Nat.zero_add] at this
          rw [HE0.out, this, if_neg h]
        generalize Ck.opE (Cd.fns l) g g.ops[k] = e at HWO HK2 HK3
        generalize g.ops[k] = o at c0 c1 c2 c3 c4 HWO
        obtain ⟨U, hU⟩ : ∃ U, U = wr.alloc (.cells #[.int .u8 (o.k : Int), .int .i64 o.d, .int .i64 o.a, .int .i64 o.b, .int .i64 o.n] 44) := ⟨_, rfl⟩
        have hbU : Below wr.heap.size wr U := by rw [hU]; exact Cd.fn1 _ _ _
        have HOU : Hid (Cd.OB U wr.heap.size o) := by show U.heap[_]? = _; rw [hU]; exact heap_alloc_new wr _
        have HVU := Lib.hid (HBW.out.trans (hbU.mono HBW.out.size))
        have HFU : Hid (Cd.FB U F g.args g.regs (.slice (some ado) g.ops.length mc) ∧ Cd.PBlk U X (.slice (some ad) l.length c)) := ⟨HFB.out.1.of_block (HVU.out.block _ HFB.out.1.lt), HFB.out.2.of_block (HVU.out.block _ HFB.out.2.lt)⟩
        have HCU := Lib.hid (HWO.out U (HPV.out.later HVU.out))
        clear hbU hlt HWO
        go_upto_region 7 with fail
        rw [← hU]
        clear hU c0 c1 c2 c3 c4
        generalize wr.heap.size = O at HOU ⊢
        have c0 := HOU.out.c0
        have c1 := HOU.out.c1
        have c2 := HOU.out.c2
        have c3 := HOU.out.c3
        have c4 := HOU.out.c4
        have f0 := HFU.out.1.c0
        have f1 := HFU.out.1.c1
        have f2 := HFU.out.1.c2
        have p0 := HFU.out.2.c0
        go_wp2_with fail
        refine HCU.out.mono ?_
        rintro e2 w3 ⟨rfl, hb3⟩
        have H3 := Lib.hid (HVU.out.trans (hb3.mono HVU.out.size))
        clear hb3 c0 c1 c2 c3 c4 f0 f1 f2 p0 HCU
        by_cases he : e = 0
        · have HK4 := Lib.hid (HK2.out he)
          have hei : ((e : Int) != 0) = false := by simpa using (by omega : (e : Int) = 0)
          subst he
          clear HK2 HK3
          go_wp2_with fail
          go_roundw
          case rel => exact ⟨k + 1, by omega, by go_num, HK4.out, H3.out⟩
          case measure => simp [intOf]; omega
        · have HE := Lib.hid (HK3.out he)
          have hei : ((e : Int) != 0) = true := by simpa using (by omega : ¬ (e : Int) = 0)
          have HV : Hid (Ck.errV (e, i, k) = .iface 46 (.agg #[.int .i64 (e : Int), .int .i64 (i : Int), .int .i64 (k : Int)])) := Ck.errV_is he
          clear HK2 HK3 he
          go_wp2_with fail
          go_ret
          exact ⟨by rw [HE.out]; exact congrArg Ending.returned HV.out.symm, HBV.out.trans (H3.out.mono HBV.out.size)⟩
      · have k1 : ¬ (k : Int) < (g.ops.length : Int) := by omega
        have HE : Hid (Ck.fnE (Cd.fns l) g = Ck.endE g) := by
          show _ = _
          rw [HE0.out, Ck.opsE_no (fun j hj => HK.out j hj (by omega)), if_pos rfl]
        have p0 := (HFB.out.2.of_block (HBW.out.block _ HFB.out.2.lt)).c0
        have HC := Lib.hid (HEND.out wr (HPV.out.later HBW.out))
        clear hlt
        go_wp2_with fail
        refine HC.out.mono ?_
        rintro e2 w3 ⟨rfl, hb3⟩
        have H3 := Lib.hid (HBV.out.trans ((HBW.out.trans (hb3.mono HBW.out.size)).mono HBV.out.size))
        clear hb3 HC p0
        go_wp2_with fail
        go_ret
        exact ⟨by rw [HE.out]; rfl, H3.out⟩
end Go.Proofs.YtndgafjnifkghaaDoor
