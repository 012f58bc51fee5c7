/-
  Contracts of check.hasArguments, wrongOp.
  Contracts of check.wrongEnd, wrongFunc, wrong.
  The contract of check.wrong.
-/
import Derived.Test.YtepnofklmdofmaaGreatDoorLowChA
import Derived.Test.YtepnofklmdofmaaGreatDoorLowCdI
import Derived.Test.YtepnofklmdofmaaGreatDoorCrA
section
namespace Go.Proofs.YtepnofklmdofmaaGreatDoor
open Go.RowKit

namespace Ck
open Cd
/-- A program that has its form, in memory below the world's end. -/
structure PrgP (w : World) (A : Option Addr) (l : List Fm) : Prop where
  p : Prog w w.heap.size A l
  r : ∀ m ∈ l, m.f.Rng
  n : l.length ≤ 16
  k : ∀ m ∈ l, m.f.ok = true
theorem PrgP.later {w w' : World} {A : Option Addr} {l : List Fm} (h : PrgP w A l) (hb : Below w.heap.size w w') : PrgP w' A l := ⟨(h.p.below hb).mono hb.size, h.r, h.n, h.k⟩
end Ck

set_option maxHeartbeats 2000000 in
set_option maxRecDepth 20000 in
theorem khasArgs (A : Option Addr) (c : Nat) (l : List Cd.Fm) (w : World) (hP : Ck.PrgP w A l) (m : Cd.Fm) (o : Cd.OpV) (hok : o.ok = true) (htg : Ck.tgtOk l.length m.f o = true) :
    Calls Tryz.prog 137 #[.agg #[.slice A l.length c], .agg #[.int .i64 m.f.args, .int .i64 m.f.regs, .slice m.A m.f.ops.length m.c], .agg #[.int .u8 (o.k : Int), .int .i64 o.d, .int .i64 o.a, .int .i64 o.b, .int .i64 o.n]] w
      fun e w' => e = .returned (.bool (Ck.argOk (Cd.fns l) m.f o)) ∧ Below w.heap.size w w' := by
  obtain ⟨W0, hW0⟩ : ∃ W0, W0 = w.alloc (.cells #[.slice A l.length c] 24) := ⟨_, rfl⟩
  obtain ⟨W1, hW1⟩ : ∃ W1, W1 = W0.alloc (.cells #[.int .i64 m.f.args, .int .i64 m.f.regs, .slice m.A m.f.ops.length m.c] 107) := ⟨_, rfl⟩
  obtain ⟨W, hW⟩ : ∃ W, W = W1.alloc (.cells #[.int .u8 (o.k : Int), .int .i64 o.d, .int .i64 o.a, .int .i64 o.b, .int .i64 o.n] 72) := ⟨_, rfl⟩
  obtain ⟨hbx, hb, s0, s1, _⟩ := Ck.box3 hW0 hW1 hW
  have HB := Lib.hid hb
  have HBX := Lib.hid hbx
  by_cases hk : o.k = 12
  · have hke : (o.k : Int) = 12 := by omega
    have hin : 0 ≤ o.n ∧ o.n < (l.length : Int) := by
      unfold Ck.tgtOk at htg
      rw [if_neg (by omega), if_pos hk] at htg
      unfold Ck.inN at htg
      simpa using htg
    obtain ⟨q, hq⟩ := Int.eq_ofNat_of_zero_le hin.1
    have hql : q < l.length := by omega
    have hmem := List.getElem_mem hql
    obtain ⟨⟨y, ey, hy⟩, _⟩ := Cd.FnV.ok_parts (hP.k _ hmem)
    obtain ⟨_, hra, _⟩ := Cd.OpV.ok_reg hok
    rw [Cd.reg_iff] at hra
    have HE : Hid (Ck.argOk (Cd.fns l) m.f o = Ck.allLt (Ck.fromL o.a y) m.f.regs) := by
      show _ = _
      unfold Ck.argOk Ck.argN
      rw [if_pos hk, Ck.fromL_lt, hq, Int.toNat_natCast]
      unfold Cd.fns
      rw [List.getElem?_map, List.getElem?_eq_getElem hql]
      simp only [Option.map_some, Option.getD_some, ey]
    obtain ⟨ad, rfl, hadb, d0, _, _⟩ := Cd.fn_at (hP.p.below hb).fs hql
    rw [ey] at d0
    have HD := Lib.hid d0
    have q0 : (0 : Int) ≤ (q : Int) := by omega
    have q1 : (q : Int) < (l.length : Int) := by omega
    have hadb2 : (ad.add (q * 3)).block < W.heap.size := by rw [Lies.add_block]; have := hb.size; omega
    have HAD := Lib.hid hadb2
    have c0 := hbx.o.c0
    rw [hke] at c0
    have c4 := hbx.o.c4
    rw [hq] at c4
    have HKEEP : Hid (∀ {U : World}, Below W.heap.size W U → U.cell? ⟨w.heap.size + 1 + 1, 0, none⟩ = some (.int .u8 12) ∧ U.cell? ⟨w.heap.size + 1, 1, none⟩ = some (.int .i64 m.f.regs) ∧ U.cell? ⟨w.heap.size + 1 + 1, 2, none⟩ = some (.int .i64 o.a) ∧ U.cell? ⟨w.heap.size, 0, none⟩ = some (.slice (some ad) l.length c) ∧ U.cell? ⟨w.heap.size + 1 + 1, 4, none⟩ = some (.int .i64 (q : Int)) ∧ U.cell? (ad.add (q * 3)) = some (.int .i64 (y : Int)) ∧ Below W.heap.size W U) := fun {U} h => by
      have h3 := HBX.out.later h
      refine ⟨?_, h3.f.c1, h3.o.c2, h3.p.c0, ?_, (World.cell?_of_block (h.block _ HAD.out)).trans HD.out, h⟩
      · have := h3.o.c0
        rwa [hke] at this
      · have := h3.o.c4
        rwa [hq] at this
    have HFR : Hid (∀ {U : World}, Below W.heap.size W U → Calls Tryz.prog 155 #[.int .i64 o.a, .int .i64 (y : Int)] U fun e w' => ∃ (A' : Option Addr) (c' : Nat), e = .returned (.slice A' y c') ∧ Hid (Lies w' w'.heap.size A' (icells (Ck.fromL o.a y))) ∧ Below W.heap.size W w') := fun {U} h => by
      refine (kfrom o.a y hra hy U).mono ?_
      rintro e w' ⟨A', c', he, hl, hb2⟩
      exact ⟨A', c', he, hl, h.trans (hb2.mono h.size)⟩
    have HBL : Hid (∀ {U : World} {A' : Option Addr} {c' : Nat}, Hid (Lies U U.heap.size A' (icells (Ck.fromL o.a y))) → Below W.heap.size W U → Calls Tryz.prog 153 #[.int .i64 m.f.regs, .slice A' y c'] U fun e w' => e = .returned (.bool (Ck.allLt (Ck.fromL o.a y) m.f.regs)) ∧ Below W.heap.size W w') := fun {U A' c'} hl h => by
      have := kbelow m.f.regs (Ck.fromL o.a y) A' c' U (by rw [Ck.fromL_len]; omega) hl.out
      rw [Ck.fromL_len] at this
      refine this.mono ?_
      rintro e w' ⟨he, hb2⟩
      exact ⟨he, h.trans (hb2.mono h.size)⟩
    generalize Ck.allLt (Ck.fromL o.a y) m.f.regs = r at HE HBL
    have bb := (Below.refl W.heap.size W).drew
    rw [hke] at hW ⊢
    rw [hq] at hW ⊢
    clear hk hin hq hmem ey hra hadb d0 hadb2 c0 c4 hbx hb hP hok htg hke
    go_enter Tryz.func137, Tryz.ntmps137
    go_upto_region 1 with fail
    rw [← hW0, ← s0, ← hW1, s0]
    rw [show w.heap.size + 1 + 1 = W1.heap.size by omega, ← hW, s1]
    clear hW hW1 hW0 s0 s1
    have hks := HKEEP.out (Below.refl _ _)
    go_region_held3 (fun wx => wx.cell? ⟨w.heap.size + 1 + 1, 0, none⟩ = some (.int .u8 12) ∧ wx.cell? ⟨w.heap.size + 1, 1, none⟩ = some (.int .i64 m.f.regs) ∧ wx.cell? ⟨w.heap.size + 1 + 1, 2, none⟩ = some (.int .i64 o.a) ∧ wx.cell? ⟨w.heap.size, 0, none⟩ = some (.slice (some ad) l.length c) ∧ wx.cell? ⟨w.heap.size + 1 + 1, 4, none⟩ = some (.int .i64 (q : Int)) ∧ wx.cell? (ad.add (q * 3)) = some (.int .i64 (y : Int)) ∧ Below W.heap.size W wx)
      (first | with_reducible assumption | with_reducible exact HKEEP.out (by with_reducible assumption))
      (first
        | (go_at_call 155; with_reducible refine (HFR.out (by with_reducible assumption)).mono ?_; rintro e y1 ⟨A', c', rfl, hli, hy1⟩)
        | (go_at_call 153; with_reducible refine (HBL.out hli (by with_reducible assumption)).mono ?_; rintro e y2 ⟨rfl, hy2⟩))
    simp only [Exit.then]
    go_at_K
    go_wp2_with fail
    go_ret
    exact ⟨by rw [HE.out]; rfl, HB.out.trans (hy2.mono HB.out.size)⟩
  · have e1 : ((o.k : Int) != 12) = true := by simpa using (by omega : ¬ (o.k : Int) = 12)
    have e2 : ((o.k : Int) == 12) = false := by simpa using (by omega : ¬ (o.k : Int) = 12)
    have HE : Hid (Ck.argOk (Cd.fns l) m.f o = true) := by show _ = _; unfold Ck.argOk; rw [if_neg hk]
    have c0 := hbx.o.c0
    clear hk hbx hb hP hok htg
    go_enter Tryz.func137, Tryz.ntmps137
    go_upto_region 1 with fail
    rw [← hW0, ← s0, ← hW1, s0]
    rw [show w.heap.size + 1 + 1 = W1.heap.size by omega, ← hW, s1]
    clear hW hW1 hW0 s0 s1
    go_region
    all_goals
      go_wp2_with fail
      go_ret
      exact ⟨by rw [HE.out]; rfl, HB.out.drew⟩

set_option maxHeartbeats 2000000 in
set_option maxRecDepth 20000 in
theorem kwrongOp (A : Option Addr) (c : Nat) (l : List Cd.Fm) (w : World) (hP : Ck.PrgP w A l) (m : Cd.Fm) (hm : m.f.ops.length ≤ 64) (o : Cd.OpV) (hok : o.ok = true) :
    Calls Tryz.prog 112 #[.agg #[.slice A l.length c], .agg #[.int .i64 m.f.args, .int .i64 m.f.regs, .slice m.A m.f.ops.length m.c], .agg #[.int .u8 (o.k : Int), .int .i64 o.d, .int .i64 o.a, .int .i64 o.b, .int .i64 o.n]] w
      fun e w' => e = .returned (.int .i64 (Ck.opE (Cd.fns l) m.f o : Int)) ∧ Below w.heap.size w w' := by
  obtain ⟨W0, hW0⟩ : ∃ W0, W0 = w.alloc (.cells #[.slice A l.length c] 24) := ⟨_, rfl⟩
  obtain ⟨W1, hW1⟩ : ∃ W1, W1 = W0.alloc (.cells #[.int .i64 m.f.args, .int .i64 m.f.regs, .slice m.A m.f.ops.length m.c] 107) := ⟨_, rfl⟩
  obtain ⟨W, hW⟩ : ∃ W, W = W1.alloc (.cells #[.int .u8 (o.k : Int), .int .i64 o.d, .int .i64 o.a, .int .i64 o.b, .int .i64 o.n] 72) := ⟨_, rfl⟩
  obtain ⟨hbx, hb, s0, s1, _⟩ := Ck.box3 hW0 hW1 hW
  have HB := Lib.hid hb
  have HBX := Lib.hid hbx
  have HPW := Lib.hid (hP.later hb)
  have HN := Lib.hid hP.n
  have HR := Lib.hid (khasRegs o hok m.f.regs W)
  have HT : Hid (∀ U, Calls Tryz.prog 136 #[.agg #[.slice A l.length c], .agg #[.int .i64 m.f.args, .int .i64 m.f.regs, .slice m.A m.f.ops.length m.c], .agg #[.int .u8 (o.k : Int), .int .i64 o.d, .int .i64 o.a, .int .i64 o.b, .int .i64 o.n]] U fun e w' => e = .returned (.bool (Ck.tgtOk l.length m.f o)) ∧ Below U.heap.size U w') := fun U => khasTgt A l.length c (by have := HN.out; omega) m (by omega) o U
  have HA : Hid (∀ U, Ck.PrgP U A l → Ck.tgtOk l.length m.f o = true → Calls Tryz.prog 137 #[.agg #[.slice A l.length c], .agg #[.int .i64 m.f.args, .int .i64 m.f.regs, .slice m.A m.f.ops.length m.c], .agg #[.int .u8 (o.k : Int), .int .i64 o.d, .int .i64 o.a, .int .i64 o.b, .int .i64 o.n]] U fun e w' => e = .returned (.bool (Ck.argOk (Cd.fns l) m.f o)) ∧ Below U.heap.size U w') := fun U hU ht => khasArgs A c l U hU m o hok ht
  have HE : Hid (Ck.opE (Cd.fns l) m.f o = if Ck.regsOk o m.f.regs then (if Ck.tgtOk l.length m.f o then (if Ck.argOk (Cd.fns l) m.f o then 0 else 111) else 112) else 111) := by show _ = _; unfold Ck.opE; rw [Cd.fns_len]
  generalize Ck.opE (Cd.fns l) m.f o = E at HE ⊢
  generalize Ck.regsOk o m.f.regs = r1 at HR HE
  generalize Ck.tgtOk l.length m.f o = r2 at HT HA HE
  generalize Ck.argOk (Cd.fns l) m.f o = r3 at HA HE
  have c0 := hbx.o.c0
  have c1 := hbx.o.c1
  have c2 := hbx.o.c2
  have c3 := hbx.o.c3
  have c4 := hbx.o.c4
  have f1 := hbx.f.c1
  clear hbx hb hP hok hm
  go_enter Tryz.func112, Tryz.ntmps112
  go_upto_region 1 with fail
  rw [← hW0, ← s0, ← hW1, s0]
  rw [show w.heap.size + 1 + 1 = W1.heap.size by omega, ← hW, s1]
  clear hW hW1 hW0 s0 s1
  go_wp2_with fail
  refine HR.out.mono ?_
  rintro e w1 ⟨rfl, hb1⟩
  have H1 := Lib.hid hb1
  have hx1 := HBX.out.later hb1
  clear hb1 c0 c1 c2 c3 c4 f1 HR
  cases r1 with
  | false =>
    have HE2 : Hid (E = 111) := HE.out
    clear HE HT HA hx1
    go_wp2_with fail
    go_ret
    exact ⟨by rw [HE2.out]; rfl, HB.out.trans (H1.out.mono HB.out.size)⟩
  | true =>
    have c0 := hx1.o.c0
    have c1 := hx1.o.c1
    have c2 := hx1.o.c2
    have c3 := hx1.o.c3
    have c4 := hx1.o.c4
    have f0 := hx1.f.c0
    have f1 := hx1.f.c1
    have f2 := hx1.f.c2
    have p0 := hx1.p.c0
    clear hx1
    go_wp2_with fail
    refine (HT.out _).mono ?_
    rintro e w2 ⟨rfl, hb2⟩
    have H2 := Lib.hid (H1.out.trans (hb2.mono H1.out.size))
    have hx2 := HBX.out.later H2.out
    clear hb2 c0 c1 c2 c3 c4 f0 f1 f2 p0 HT
    cases r2 with
    | false =>
      have HE2 : Hid (E = 112) := HE.out
      clear HE HA hx2
      go_wp2_with fail
      go_ret
      exact ⟨by rw [HE2.out]; rfl, HB.out.trans (H2.out.mono HB.out.size)⟩
    | true =>
      have c0 := hx2.o.c0
      have c1 := hx2.o.c1
      have c2 := hx2.o.c2
      have c3 := hx2.o.c3
      have c4 := hx2.o.c4
      have f0 := hx2.f.c0
      have f1 := hx2.f.c1
      have f2 := hx2.f.c2
      have p0 := hx2.p.c0
      have HA2 := Lib.hid (HA.out w2 (HPW.out.later H2.out) rfl)
      clear hx2 HA
      go_wp2_with fail
      refine HA2.out.mono ?_
      rintro e w3 ⟨rfl, hb3⟩
      have H3 := Lib.hid (H2.out.trans (hb3.mono H2.out.size))
      clear hb3 c0 c1 c2 c3 c4 f0 f1 f2 p0
      cases r3 with
      | false =>
        have HE2 : Hid (E = 111) := HE.out
        clear HE
        go_wp2_with fail
        go_ret
        exact ⟨by rw [HE2.out]; rfl, HB.out.trans (H3.out.mono HB.out.size)⟩
      | true =>
        have HE2 : Hid (E = 0) := HE.out
        clear HE
        go_wp2_with fail
        go_ret
        exact ⟨by rw [HE2.out]; rfl, HB.out.trans (H3.out.mono HB.out.size)⟩
end Go.Proofs.YtepnofklmdofmaaGreatDoor
end

section
namespace Go.Proofs.YtepnofklmdofmaaGreatDoor
open Go.RowKit

namespace Ck
open Cd
/-- An error: none, or a fault. -/
def errV (e : Nat × Nat × Nat) : Value := if e.1 = 0 then .nilIface else .iface 139 (.agg #[.int .i64 (e.1 : Int), .int .i64 (e.2.1 : Int), .int .i64 (e.2.2 : Int)])
theorem errV_no {e : Nat × Nat × Nat} (h : e.1 = 0) : errV e = .nilIface := by unfold errV; rw [if_pos h]
theorem errV_is {e : Nat × Nat × Nat} (h : e.1 ≠ 0) : errV e = .iface 139 (.agg #[.int .i64 (e.1 : Int), .int .i64 (e.2.1 : Int), .int .i64 (e.2.2 : Int)]) := by unfold errV; rw [if_neg h]
theorem endE_nil {f : FnV} (h : f.ops.length = 0) : endE f = (113, 0) := by
  unfold endE
  rw [List.eq_nil_of_length_eq_zero h]
  rfl
theorem endE_last {f : FnV} (h : f.ops.length - 1 < f.ops.length) : endE f = if ends (f.ops[f.ops.length - 1]).k then (0, 0) else (113, f.ops.length - 1) := by
  unfold endE
  rw [List.getLast?_eq_getElem?, List.getElem?_eq_getElem h]
end Ck

set_option maxHeartbeats 1000000 in
set_option maxRecDepth 20000 in
theorem kwrongEnd (A : Option Addr) (c : Nat) (l : List Cd.Fm) (w : World) (hP : Ck.PrgP w A l) (i : Nat) (hi : i < l.length) :
    Calls Tryz.prog 113 #[.agg #[.slice A l.length c], .int .i64 (i : Int)] w fun e w' => e = .returned (Ck.errV ((Ck.endE l[i].f).1, i, (Ck.endE l[i].f).2)) ∧ Below w.heap.size w w' := by
  obtain ⟨W, hW⟩ : ∃ W, W = w.alloc (.cells #[.slice A l.length c] 24) := ⟨_, rfl⟩
  have hb : Below w.heap.size w W := by rw [hW]; exact Cd.fn1 _ _ _
  have hX : Cd.PBlk W w.heap.size (.slice A l.length c) := by show W.heap[_]? = _; rw [hW]; exact heap_alloc_new w _
  have HB := Lib.hid hb
  have p0 := hX.c0
  have hn := hP.n
  have i0 : (0 : Int) ≤ (i : Int) := by omega
  have i1 : (i : Int) < (l.length : Int) := by omega
  obtain ⟨ad, rfl, -, -, -, d2⟩ := Cd.fn_at (hP.p.below hb).fs hi
  have hli := (hP.p.below hb).os _ (List.getElem_mem hi)
  have hlen := (hP.r _ (List.getElem_mem hi)).len
  unfold maxLen at hlen
  generalize l[i] = m at d2 hli hlen ⊢
  by_cases h0 : m.f.ops.length = 0
  · have HE : Hid (Ck.endE m.f = (113, 0)) := Ck.endE_nil h0
    have e0 : ((m.f.ops.length : Int) == 0) = true := by rw [beq_iff_eq]; omega
    clear h0 hX hb hP hi hli
    go_enter Tryz.func113, Tryz.ntmps113
    go_upto_region 1 with fail
    rw [← hW]
    clear hW
    go_wp2_with fail
    go_ret
    exact ⟨by rw [HE.out]; rfl, HB.out⟩
  · have hlast : m.f.ops.length - 1 < m.f.ops.length := by omega
    have HE := Lib.hid (Ck.endE_last hlast)
    obtain ⟨N, hN⟩ : ∃ N, N = m.f.ops.length - 1 := ⟨_, rfl⟩
    have hsub : IntKind.i64.wrap ((m.f.ops.length : Int) - 1) = (N : Int) := by rw [IntKind.wrap_i64]; omega
    have e0 : ((m.f.ops.length : Int) == 0) = false := by rw [beq_eq_false_iff_ne]; omega
    have n0 : (0 : Int) ≤ (N : Int) := by omega
    have n1 : (N : Int) < (m.f.ops.length : Int) := by omega
    obtain ⟨ado, hA, -, c0, -, -, -, -⟩ := Cd.op_at hli hlast
    rw [hA] at d2
    have HE2 : Hid (∃ k : Nat, W.cell? (ado.add (N * 5)) = some (.int .u8 (k : Int)) ∧ Ck.endE m.f = if Ck.ends k then (0, 0) else (113, N)) := by
      refine ⟨(m.f.ops[m.f.ops.length - 1]).k, ?_, ?_⟩
      · rw [hN]; exact c0
      · rw [HE.out, hN]
    clear HE
    obtain ⟨k, ck, hE⟩ := HE2.out
    have HE := Lib.hid hE
    clear HE2 hE c0 hN hlast hA hli h0 hX hb hP hi
    by_cases hk : k = 10
    · have HEE : Hid (Ck.endE m.f = (0, 0)) := by show _ = _; rw [HE.out, hk]; rfl
      have hke : (k : Int) = 10 := by omega
      rw [hke] at ck
      clear hk hke HE
      go_enter Tryz.func113, Tryz.ntmps113
      go_upto_region 1 with fail
      rw [← hW]
      clear hW
      go_wp2_with fail
      go_ret
      exact ⟨by rw [HEE.out]; rfl, HB.out⟩
    · by_cases hk2 : k = 14
      · have HEE : Hid (Ck.endE m.f = (0, 0)) := by show _ = _; rw [HE.out, hk2]; rfl
        have hke : (k : Int) = 14 := by omega
        rw [hke] at ck
        clear hk hk2 hke HE
        go_enter Tryz.func113, Tryz.ntmps113
        go_upto_region 1 with fail
        rw [← hW]
        clear hW
        go_wp2_with fail
        go_ret
        exact ⟨by rw [HEE.out]; rfl, HB.out⟩
      · have HEE : Hid (Ck.endE m.f = (113, N)) := by show _ = _; rw [HE.out]; unfold Ck.ends; rw [decide_eq_false hk, decide_eq_false hk2]; rfl
        have k1 : ((k : Int) != 10) = true := by simpa using (by omega : ¬ (k : Int) = 10)
        have k2 : ((k : Int) != 14) = true := by simpa using (by omega : ¬ (k : Int) = 14)
        clear hk hk2 HE
        go_enter Tryz.func113, Tryz.ntmps113
        go_upto_region 1 with fail
        rw [← hW]
        clear hW
        go_wp2_with fail
        go_ret
        exact ⟨by rw [HEE.out]; rfl, HB.out⟩

set_option maxHeartbeats 1000000 in
set_option maxRecDepth 20000 in
theorem kwrongFunc (A : Option Addr) (c : Nat) (l : List Cd.Fm) (w : World) (hP : Ck.PrgP w A l) (i : Nat) (hi : i < l.length) :
    Calls Tryz.prog 92 #[.agg #[.slice A l.length c], .int .i64 (i : Int)] w fun e w' => e = .returned (Ck.errV ((Ck.fnE (Cd.fns l) l[i].f).1, i, (Ck.fnE (Cd.fns l) l[i].f).2)) ∧ Below w.heap.size w w' := by
  obtain ⟨W, hW⟩ : ∃ W, W = w.alloc (.cells #[.slice A l.length c] 24) := ⟨_, rfl⟩
  have hb : Below w.heap.size w W := by rw [hW]; exact Cd.fn1 _ _ _
  have hX : Cd.PBlk W w.heap.size (.slice A l.length c) := by show W.heap[_]? = _; rw [hW]; exact heap_alloc_new w _
  have HB := Lib.hid hb
  have p0 := hX.c0
  have hn := hP.n
  have i0 : (0 : Int) ≤ (i : Int) := by omega
  have i1 : (i : Int) < (l.length : Int) := by omega
  have HPW := Lib.hid (hP.later hb)
  have HEND : Hid (∀ U, Ck.PrgP U A l → Calls Tryz.prog 113 #[.agg #[.slice A l.length c], .int .i64 (i : Int)] U fun e w' => e = .returned (Ck.errV ((Ck.endE l[i].f).1, i, (Ck.endE l[i].f).2)) ∧ Below U.heap.size U w') := fun U hU => kwrongEnd A c l U hU i hi
  have hmem := List.getElem_mem hi
  have HLI := Lib.hid (HPW.out.p.os _ hmem)
  have HRM := Lib.hid (hP.r _ hmem)
  obtain ⟨-, -, h64, hops⟩ := Cd.FnV.ok_parts (hP.k _ hmem)
  have HOPS := Lib.hid hops
  obtain ⟨ad, rfl, -, d0, d1, d2⟩ := Cd.fn_at (hP.p.below hb).fs hi
  have HFE : Hid (Ck.fnE (Cd.fns l) l[i].f = if l[i].f.regs < l[i].f.args then (110, 0) else if (Ck.opsE (Cd.fns l) l[i].f l[i].f.ops 0).1 = 0 then Ck.endE l[i].f else Ck.opsE (Cd.fns l) l[i].f l[i].f.ops 0) := rfl
  generalize l[i] = m at d0 d1 d2 HLI HRM HOPS h64 HEND HFE ⊢
  obtain ⟨g, AO, mc⟩ := m
  dsimp only at d0 d1 d2 HLI HRM HOPS h64 HEND HFE ⊢
  obtain ⟨V, hV⟩ : ∃ V, V = W.alloc (.cells #[.int .i64 g.args, .int .i64 g.regs, .slice AO g.ops.length mc] 107) := ⟨_, rfl⟩
  have hbV : Below W.heap.size W V := by rw [hV]; exact Cd.fn1 _ _ _
  have HFB : Hid (Cd.FB V W.heap.size g.args g.regs (.slice AO g.ops.length mc) ∧ Cd.PBlk V w.heap.size (.slice (some ad) l.length c)) := ⟨by show V.heap[_]? = _; rw [hV]; exact heap_alloc_new W _, hX.of_block (hbV.block _ hX.lt)⟩
  have HBV := Lib.hid (hb.trans (hbV.mono hb.size))
  have HPV := Lib.hid (HPW.out.later hbV)
  have HLV := Lib.hid ((HLI.out.below hbV).mono hbV.size)
  have hWs : W.heap.size = w.heap.size + 1 := by rw [hW]; simp
  clear hX hb hP hmem hops hi HPW HLI hbV
  go_enter Tryz.func92, Tryz.ntmps92
  go_upto_region 1 with fail
  rw [← hW]
  clear hW
  go_upto_region 2 with fail
  rw [← hV]
  clear hV p0 d0 d1 d2
  rw [hWs] at HFB
  clear hWs
  obtain ⟨X, hX⟩ : ∃ X, X = w.heap.size := ⟨_, rfl⟩
  obtain ⟨F, hF⟩ : ∃ F, F = X + 1 := ⟨_, rfl⟩
  rw [← hX, ← hF] at HFB
  rw [← hX, ← hF]
  clear hX hF
  have f0 := HFB.out.1.c0
  have f1 := HFB.out.1.c1
  have f2 := HFB.out.1.c2
  by_cases hra : g.regs < g.args
  · have HE : Hid (Ck.fnE (Cd.fns l) g = (110, 0)) := HFE.out.trans (if_pos hra)
    have hd : decide (g.regs < g.args) = true := by simpa using hra
    clear HFE
    go_wp2_with fail
    go_ret
    exact ⟨by rw [HE.out]; rfl, HBV.out⟩
  · have HE0 := Lib.hid (HFE.out.trans (if_neg hra))
    have hd : decide (g.regs < g.args) = false := by simpa using hra
    clear HFE
    go_wp2_with fail
    clear f0 f1 f2
    go_loopw [25] (fun s25 wr => ∃ k : Nat, k ≤ g.ops.length ∧ s25 = .int .i64 k ∧ Hid (∀ j (hj : j < g.ops.length), j < k → Ck.opE (Cd.fns l) g g.ops[j] = 0) ∧ Hid (Below V.heap.size V wr)) (fun s25 _ => g.ops.length - (intOf s25).toNat)
    case atStart => exact ⟨0, Nat.zero_le _, rfl, (show Hid _ from fun j _ h => by omega), Below.refl _ _⟩
    case round =>
      obtain ⟨k, hk, rfl, HK, HBW⟩ := hrel
      by_cases hlt : k < g.ops.length
      · obtain ⟨ado, rfl, -, c0, c1, c2, c3, c4⟩ := Cd.op_at (HLV.out.below HBW.out) hlt
        have k0 : (0 : Int) ≤ (k : Int) := by omega
        have k1 : (k : Int) < (g.ops.length : Int) := by omega
        have HWO : Hid (∀ U, Ck.PrgP U (some ad) l → Calls Tryz.prog 112 #[.agg #[.slice (some ad) l.length c], .agg #[.int .i64 g.args, .int .i64 g.regs, .slice (some ado) g.ops.length mc], .agg #[.int .u8 (g.ops[k].k : Int), .int .i64 g.ops[k].d, .int .i64 g.ops[k].a, .int .i64 g.ops[k].b, .int .i64 g.ops[k].n]] U
          fun e w' => e = .returned (.int .i64 (Ck.opE (Cd.fns l) g g.ops[k] : Int)) ∧ Below U.heap.size U w') := fun U hU => kwrongOp (some ad) c l U hU (⟨g, some ado, mc⟩ : Cd.Fm) h64 g.ops[k] (HOPS.out _ (List.getElem_mem hlt))
        have HK2 : Hid (Ck.opE (Cd.fns l) g g.ops[k] = 0 → ∀ j (hj : j < g.ops.length), j < k + 1 → Ck.opE (Cd.fns l) g g.ops[j] = 0) := fun h j hj hjk => by
          rcases Nat.lt_succ_iff_lt_or_eq.1 hjk with h1 | rfl
          · exact HK.out j hj h1
          · exact h
        have HK3 : Hid (Ck.opE (Cd.fns l) g g.ops[k] ≠ 0 → Ck.fnE (Cd.fns l) g = (Ck.opE (Cd.fns l) g g.ops[k], k)) := fun h => by
          have := Ck.opsE_at (j := 0) HK.out hlt h
          rw [Nat.zero_add] at this
          rw [HE0.out, this, if_neg h]
        generalize Ck.opE (Cd.fns l) g g.ops[k] = e at HWO HK2 HK3
        generalize g.ops[k] = o at c0 c1 c2 c3 c4 HWO
        obtain ⟨U, hU⟩ : ∃ U, U = wr.alloc (.cells #[.int .u8 (o.k : Int), .int .i64 o.d, .int .i64 o.a, .int .i64 o.b, .int .i64 o.n] 72) := ⟨_, rfl⟩
        have hbU : Below wr.heap.size wr U := by rw [hU]; exact Cd.fn1 _ _ _
        have HOU : Hid (Cd.OB U wr.heap.size o) := by show U.heap[_]? = _; rw [hU]; exact heap_alloc_new wr _
        have HVU := Lib.hid (HBW.out.trans (hbU.mono HBW.out.size))
        have HFU : Hid (Cd.FB U F g.args g.regs (.slice (some ado) g.ops.length mc) ∧ Cd.PBlk U X (.slice (some ad) l.length c)) := ⟨HFB.out.1.of_block (HVU.out.block _ HFB.out.1.lt), HFB.out.2.of_block (HVU.out.block _ HFB.out.2.lt)⟩
        have HCU := Lib.hid (HWO.out U (HPV.out.later HVU.out))
        clear hbU hlt HWO
        go_upto_region 7 with fail
        rw [← hU]
        clear hU c0 c1 c2 c3 c4
        generalize wr.heap.size = O at HOU ⊢
        have c0 := HOU.out.c0
        have c1 := HOU.out.c1
        have c2 := HOU.out.c2
        have c3 := HOU.out.c3
        have c4 := HOU.out.c4
        have f0 := HFU.out.1.c0
        have f1 := HFU.out.1.c1
        have f2 := HFU.out.1.c2
        have p0 := HFU.out.2.c0
        go_wp2_with fail
        refine HCU.out.mono ?_
        rintro e2 w3 ⟨rfl, hb3⟩
        have H3 := Lib.hid (HVU.out.trans (hb3.mono HVU.out.size))
        clear hb3 c0 c1 c2 c3 c4 f0 f1 f2 p0 HCU
        by_cases he : e = 0
        · have HK4 := Lib.hid (HK2.out he)
          have hei : ((e : Int) != 0) = false := by simpa using (by omega : (e : Int) = 0)
          subst he
          clear HK2 HK3
          go_wp2_with fail
          go_roundw
          case rel => exact ⟨k + 1, by omega, by go_num, HK4.out, H3.out⟩
          case measure => simp [intOf]; omega
        · have HE := Lib.hid (HK3.out he)
          have hei : ((e : Int) != 0) = true := by simpa using (by omega : ¬ (e : Int) = 0)
          have HV : Hid (Ck.errV (e, i, k) = .iface 139 (.agg #[.int .i64 (e : Int), .int .i64 (i : Int), .int .i64 (k : Int)])) := Ck.errV_is he
          clear HK2 HK3 he
          go_wp2_with fail
          go_ret
          exact ⟨by rw [HE.out]; exact congrArg Ending.returned HV.out.symm, HBV.out.trans (H3.out.mono HBV.out.size)⟩
      · have k1 : ¬ (k : Int) < (g.ops.length : Int) := by omega
        have HE : Hid (Ck.fnE (Cd.fns l) g = Ck.endE g) := by
          show _ = _
          rw [HE0.out, Ck.opsE_no (fun j hj => HK.out j hj (by omega)), if_pos rfl]
        have p0 := (HFB.out.2.of_block (HBW.out.block _ HFB.out.2.lt)).c0
        have HC := Lib.hid (HEND.out wr (HPV.out.later HBW.out))
        clear hlt
        go_wp2_with fail
        refine HC.out.mono ?_
        rintro e2 w3 ⟨rfl, hb3⟩
        have H3 := Lib.hid (HBV.out.trans ((HBW.out.trans (hb3.mono HBW.out.size)).mono HBV.out.size))
        clear hb3 HC p0
        go_wp2_with fail
        go_ret
        exact ⟨by rw [HE.out]; rfl, H3.out⟩
end Go.Proofs.YtepnofklmdofmaaGreatDoor
end

section
namespace Go.Proofs.YtepnofklmdofmaaGreatDoor
open Go.RowKit

namespace Ck
open Cd
theorem errV_fault (e : Nat) (i k : Nat) (he : e ≠ 0) : errV (e, i, k) = .iface 139 (.agg #[.int .i64 (e : Int), .int .i64 (i : Int), .int .i64 (k : Int)]) := errV_is he
theorem chk_bad {p : List FnV} (h : pok p = false) : chk p = (8, 0, 0) := by unfold chk; rw [h]; rfl
theorem chk_none {p : List FnV} (h : pok p = true) (h0 : p = []) : chk p = (110, 0, 0) := by unfold chk; rw [if_pos h, if_pos h0]
theorem chk_go {p : List FnV} (h : pok p = true) (h0 : p ≠ []) : chk p = fnsE p p 0 := by unfold chk; rw [if_pos h, if_neg h0]
theorem fns_at {l : List Fm} {i : Nat} (hi : i < l.length) : ∃ h : i < (fns l).length, (fns l)[i] = l[i].f := ⟨by rw [fns_len]; exact hi, by unfold fns; simp⟩
end Ck

set_option maxHeartbeats 1000000 in
set_option maxRecDepth 20000 in
theorem kwrong (A : Option Addr) (c : Nat) (l : List Cd.Fm) (w : World) (hR : ∀ m ∈ l, m.f.Rng) (hn : l.length ≤ maxLen) (hP : Cd.Prog w w.heap.size A l) :
    Calls Tryz.prog 58 #[.agg #[.slice A l.length c]] w fun e w' => e = .returned (Ck.errV (Ck.chk (Cd.fns l))) ∧ Below w.heap.size w w' := by
  obtain ⟨W, hW⟩ : ∃ W, W = w.alloc (.cells #[.slice A l.length c] 24) := ⟨_, rfl⟩
  have hb : Below w.heap.size w W := by rw [hW]; exact Cd.fn1 _ _ _
  have hX : Cd.PBlk W w.heap.size (.slice A l.length c) := by show W.heap[_]? = _; rw [hW]; exact heap_alloc_new w _
  have HB := Lib.hid hb
  have HX := Lib.hid hX
  have p0 := hX.c0
  have hPW := (hP.below hb).mono hb.size
  have HM := Lib.hid (cMay l hR hn A c W hPW)
  have HOK : Hid (Cd.pok (Cd.fns l) = true → Ck.PrgP W A l) := fun h => by
    rw [Cd.pok_iff, Bool.and_eq_true, decide_eq_true_eq, List.all_eq_true] at h
    exact ⟨hPW, hR, h.1, h.2⟩
  have HCB : Hid (Cd.pok (Cd.fns l) = false → Ck.chk (Cd.fns l) = (8, 0, 0)) := fun h => Ck.chk_bad h
  have HCN : Hid (Cd.pok (Cd.fns l) = true → l.length = 0 → Ck.chk (Cd.fns l) = (110, 0, 0)) := fun h h0 => Ck.chk_none h (by unfold Cd.fns; rw [List.eq_nil_of_length_eq_zero h0]; rfl)
  have HCG : Hid (Cd.pok (Cd.fns l) = true → l.length ≠ 0 → Ck.chk (Cd.fns l) = Ck.fnsE (Cd.fns l) (Cd.fns l) 0) := fun h h0 => Ck.chk_go h (fun e => h0 (by rw [← Cd.fns_len l, e]; rfl))
  generalize Cd.pok (Cd.fns l) = q at HM HOK HCB HCN HCG
  unfold maxLen at hn
  clear hb hX hP hPW hR
  go_enter Tryz.func58, Tryz.ntmps58
  go_upto_region 1 with fail
  rw [← hW]
  clear hW
  obtain ⟨X, hXe⟩ : ∃ X, X = w.heap.size := ⟨_, rfl⟩
  rw [← hXe] at HX p0 ⊢
  clear hXe
  go_wp2_with fail
  refine HM.out.mono ?_
  rintro e w1 ⟨rfl, hb1⟩
  have H1 := Lib.hid hb1
  have p0 := (HX.out.of_block (hb1.block _ HX.out.lt)).c0
  clear hb1
  cases q with
  | false =>
    have HE := Lib.hid (HCB.out rfl)
    clear HOK HCB HCN HCG
    go_wp2_with fail
    go_ret
    exact ⟨by rw [HE.out]; rfl, HB.out.trans (H1.out.mono HB.out.size)⟩
  | true =>
    by_cases h0 : l.length = 0
    · have HE := Lib.hid (HCN.out rfl h0)
      have e0 : ((l.length : Int) == 0) = true := by rw [beq_iff_eq]; omega
      clear HOK HCB HCN HCG h0
      go_wp2_with fail
      go_ret
      exact ⟨by rw [HE.out]; rfl, HB.out.trans (H1.out.mono HB.out.size)⟩
    · have HE := Lib.hid (HCG.out rfl h0)
      have e0 : ((l.length : Int) == 0) = false := by rw [beq_eq_false_iff_ne]; omega
      have HP := Lib.hid (HOK.out rfl)
      clear HOK HCB HCN HCG h0
      go_wp2_with fail
      clear p0
      go_loopw [21] (fun s21 wr => ∃ k : Nat, k ≤ l.length ∧ s21 = .int .i64 k ∧ Hid (∀ j (hj : j < l.length), j < k → (Ck.fnE (Cd.fns l) l[j].f).1 = 0) ∧ Hid (Below W.heap.size W wr)) (fun s21 _ => l.length - (intOf s21).toNat)
      case atStart => exact ⟨0, Nat.zero_le _, rfl, (show Hid _ from fun j _ h => by omega), H1.out⟩
      case round =>
        obtain ⟨k, hk, rfl, HK, HBW⟩ := hrel
        have p0 := (HX.out.of_block (HBW.out.block _ HX.out.lt)).c0
        by_cases hlt : k < l.length
        · have k1 : (k : Int) < (l.length : Int) := by omega
          have HC := Lib.hid (kwrongFunc A c l wr (HP.out.later HBW.out) k hlt)
          have HK2 : Hid ((Ck.fnE (Cd.fns l) l[k].f).1 = 0 → ∀ j (hj : j < l.length), j < k + 1 → (Ck.fnE (Cd.fns l) l[j].f).1 = 0) := fun h j hj hjk => by
            rcases Nat.lt_succ_iff_lt_or_eq.1 hjk with h1 | rfl
            · exact HK.out j hj h1
            · exact h
          have HK3 : Hid ((Ck.fnE (Cd.fns l) l[k].f).1 ≠ 0 → Ck.chk (Cd.fns l) = ((Ck.fnE (Cd.fns l) l[k].f).1, k, (Ck.fnE (Cd.fns l) l[k].f).2)) := fun h => by
            obtain ⟨hkl, ek⟩ := Ck.fns_at hlt
            have := Ck.fnsE_at (p := Cd.fns l) (l := Cd.fns l) (k := k) (j := 0) (fun j hj hjk => by
              have hj' : j < l.length := by rwa [Cd.fns_len] at hj
              obtain ⟨_, ej⟩ := Ck.fns_at hj'
              rw [ej]
              exact HK.out j hj' hjk) hkl (by rw [ek]; exact h)
            rw [HE.out, this, ek, Nat.zero_add]
          generalize Ck.fnE (Cd.fns l) l[k].f = x at HC HK2 HK3
          obtain ⟨e, op⟩ := x
          simp only at HC HK2 HK3
          by_cases he : e = 0
          · subst he
            have HK4 := Lib.hid (HK2.out rfl)
            have HC2 : Hid (Calls Tryz.prog 92 #[.agg #[.slice A l.length c], .int .i64 (k : Int)] wr fun e w' => e = .returned .nilIface ∧ Below wr.heap.size wr w') := HC.out
            clear HC HK2 HK3 hlt
            go_wp2_with fail
            refine HC2.out.mono ?_
            rintro e2 w3 ⟨rfl, hb3⟩
            have H3 := Lib.hid (HBW.out.trans (hb3.mono HBW.out.size))
            clear hb3 HC2 p0
            go_wp2_with fail
            go_roundw
            case rel => exact ⟨k + 1, by omega, by go_num, HK4.out, H3.out⟩
            case measure => simp [intOf]; omega
          · have HEE := Lib.hid (HK3.out he)
            have HV := Lib.hid (Ck.errV_fault e k op he)
            have HC2 : Hid (Calls Tryz.prog 92 #[.agg #[.slice A l.length c], .int .i64 (k : Int)] wr fun e2 w' => e2 = .returned (.iface 139 (.agg #[.int .i64 (e : Int), .int .i64 (k : Int), .int .i64 (op : Int)])) ∧ Below wr.heap.size wr w') := by
              have := HC.out
              rw [HV.out] at this
              exact this
            clear HC HK2 HK3 hlt he
            go_wp2_with fail
            refine HC2.out.mono ?_
            rintro e2 w3 ⟨rfl, hb3⟩
            have H3 := Lib.hid (HBW.out.trans (hb3.mono HBW.out.size))
            clear hb3 HC2 p0
            go_wp2_with fail
            go_ret
            exact ⟨by rw [HEE.out]; exact congrArg Ending.returned HV.out.symm, HB.out.trans (H3.out.mono HB.out.size)⟩
        · have k1 : ¬ (k : Int) < (l.length : Int) := by omega
          have HEE : Hid (Ck.chk (Cd.fns l) = (0, 0, 0)) := by
            show _ = _
            rw [HE.out]
            exact Ck.fnsE_no (fun j hj => by
              have hj' : j < l.length := by rwa [Cd.fns_len] at hj
              obtain ⟨_, ej⟩ := Ck.fns_at hj'
              rw [ej]
              exact HK.out j hj' (by omega))
          clear hlt
          go_wp2_with fail
          go_ret
          exact ⟨by rw [HEE.out]; rfl, HB.out.trans (HBW.out.mono HB.out.size)⟩
end Go.Proofs.YtepnofklmdofmaaGreatDoor
end
