/-
  Contracts of check.hasArguments, wrongOp.
-/
import Derived.Test.YtndgafjnifkghaaDoorChB
import Derived.Test.YtndgafjnifkghaaDoorLowCdI
import Derived.Test.YtndgafjnifkghaaDoorCrA
namespace Go.Proofs.YtndgafjnifkghaaDoor
open Go.RowKit

namespace Ck
open Cd
/-- A program that has its form, in memory below the world's end. -/
structure PrgP (w : World) (A : Option Addr) (l : List Fm) : Prop where
  p : Prog w w.heap.size A l
  r : ∀ m ∈ l, m.f.Rng
  n : l.length ≤ 16
  k : ∀ m ∈ l, m.f.ok = true
theorem PrgP.later {w w' : World} {A : Option Addr} {l : List Fm} (h : PrgP w A l) (hb : Below w.heap.size w w') : PrgP w' A l := ⟨(h.p.below hb).mono hb.size, h.r, h.n, h.k⟩
end Ck

set_option maxHeartbeats 2000000 in
set_option maxRecDepth 20000 in
theorem khasArgs (A : Option Addr) (c : Nat) (l : List Cd.Fm) (w : World) (hP : Ck.PrgP w A l) (m : Cd.Fm) (o : Cd.OpV) (hok : o.ok = true) (htg : Ck.tgtOk l.length m.f o = true) :
    Calls Tryd.prog 42 #[.agg #[.slice A l.length c], .agg #[.int .i64 m.f.args, .int .i64 m.f.regs, .slice m.A m.f.ops.length m.c], .agg #[.int .u8 (o.k : Int), .int .i64 o.d, .int .i64 o.a, .int .i64 o.b, .int .i64 o.n]] w
      fun e w' => e = .returned (.bool (Ck.argOk (Cd.fns l) m.f o)) ∧ Below w.heap.size w w' := by
  obtain ⟨W0, hW0⟩ : ∃ W0, W0 = w.alloc (.cells #[.slice A l.length c] 24) := ⟨_, rfl⟩
  obtain ⟨W1, hW1⟩ : ∃ W1, W1 = W0.alloc (.cells #[.int .i64 m.f.args, .int .i64 m.f.regs, .slice m.A m.f.ops.length m.c] 41) := ⟨_, rfl⟩
  obtain ⟨W, hW⟩ : ∃ W, W = W1.alloc (.cells #[.int .u8 (o.k : Int), .int .i64 o.d, .int .i64 o.a, .int .i64 o.b, .int .i64 o.n] 44) := ⟨_, rfl⟩
  obtain ⟨hbx, hb, s0, s1, _⟩ := Ck.box3 hW0 hW1 hW
  have HB := Lib.hid hb
  have HBX := Lib.hid hbx
  by_cases hk : o.k = 12
  · have hke : (o.k : Int) = 12 := by omega
    have hin : 0 ≤ o.n ∧ o.n < (l.length : Int) := by
      unfold Ck.tgtOk at htg
      rw [if_neg (by omega), if_pos hk] at htg
      unfold Ck.inN at htg
      simpa using htg
    obtain ⟨q, hq⟩ := Int.eq_ofNat_of_zero_le hin.1
    have hql : q < l.length := by omega
    have hmem := List.getElem_mem hql
    obtain ⟨⟨y, ey, hy⟩, _⟩ := Cd.FnV.ok_parts (hP.k _ hmem)
    obtain ⟨_, hra, _⟩ := Cd.OpV.ok_reg hok
    rw [Cd.reg_iff] at hra
    have HE : Hid (Ck.argOk (Cd.fns l) m.f o = Ck.allLt (Ck.fromL o.a y) m.f.regs) := by
      show _ = _
      unfold Ck.argOk Ck.argN
      rw [if_pos hk, Ck.fromL_lt, hq, Int.toNat_natCast]
      unfold Cd.fns
      rw [List.getElem?_map, List.getElem?_eq_getElem hql]
      simp only [Option.map_some, Option.getD_some, ey]
    obtain ⟨ad, rfl, hadb, d0, _, _⟩ := Cd.fn_at (hP.p.below hb).fs hql
    rw [ey] at d0
    have HD := Lib.hid d0
    have q0 : (0 : Int) ≤ (q : Int) := by omega
    have q1 : (q : Int) < (l.length : Int) := by omega
    have hadb2 : (ad.add (q * 3)).block < W.heap.size := by rw [Lies.add_block]; have := hb.size; omega
    have HAD := Lib.hid hadb2
    have c0 := hbx.o.c0
    rw [hke] at c0
    have c4 := hbx.o.c4
    rw [hq] at c4
    have HKEEP : Hid (∀ {U : World}, Below W.heap.size W U → U.cell? ⟨w.heap.size + 1 + 1, 0, none⟩ = some (.int .u8 12) ∧ U.cell? ⟨w.heap.size + 1, 1, none⟩ = some (.int .i64 m.f.regs) ∧ U.cell? ⟨w.heap.size + 1 + 1, 2, none⟩ = some (.int .i64 o.a) ∧ U.cell? ⟨w.heap.size, 0, none⟩ = some (.slice (some ad) l.length c) ∧ U.cell? ⟨w.heap.size + 1 + 1, 4, none⟩ = some (.int .i64 (q : Int)) ∧ U.cell? (ad.add (q * 3)) = some (.int .i64 (y : Int)) ∧ Below W.heap.size W U) := fun {U} h => by
      have h3 := HBX.out.later h
      refine ⟨?_, h3.f.c1, h3.o.c2, h3.p.c0, ?_, (World.cell?_of_block (h.block _ HAD.out)).trans HD.out, h⟩
      · have := h3.o.c0
        rwa [hke] at this
      · have := h3.o.c4
        rwa [hq] at this
    have HFR : Hid (∀ {U : World}, Below W.heap.size W U → Calls Tryd.prog 49 #[.int .i64 o.a, .int .i64 (y : Int)] U fun e w' => ∃ (A' : Option Addr) (c' : Nat), e = .returned (.slice A' y c') ∧ Hid (Lies w' w'.heap.size A' (icells (Ck.fromL o.a y))) ∧ Below W.heap.size W w') := fun {U} h => by
      refine (kfrom o.a y hra hy U).mono ?_
      rintro e w' ⟨A', c', he, hl, hb2⟩
      exact ⟨A', c', he, hl, h.trans (hb2.mono h.size)⟩
    have HBL : Hid (∀ {U : World} {A' : Option Addr} {c' : Nat}, Hid (Lies U U.heap.size A' (icells (Ck.fromL o.a y))) → Below W.heap.size W U → Calls Tryd.prog 48 #[.int .i64 m.f.regs, .slice A' y c'] U fun e w' => e = .returned (.bool (Ck.allLt (Ck.fromL o.a y) m.f.regs)) ∧ Below W.heap.size W w') := fun {U A' c'} hl h => by
      have := kbelow m.f.regs (Ck.fromL o.a y) A' c' U (by rw [Ck.fromL_len]; omega) hl.out
      rw [Ck.fromL_len] at this
      refine this.mono ?_
      rintro e w' ⟨he, hb2⟩
      exact ⟨he, h.trans (hb2.mono h.size)⟩
    generalize Ck.allLt (Ck.fromL o.a y) m.f.regs = r at HE HBL
    have bb := (Below.refl W.heap.size W).drew
    rw [hke] at hW ⊢
    rw [hq] at hW ⊢
    clear hk hin hq hmem ey hra hadb d0 hadb2 c0 c4 hbx hb hP hok htg hke
    go_enter Tryd.func42, Tryd.ntmps42
    go_upto_region 1 with fail
    rw [← hW0, ← s0, ← hW1, s0]
    rw [show w.heap.size + 1 + 1 = W1.heap.size by omega, ← hW, s1]
    clear hW hW1 hW0 s0 s1
    have hks := HKEEP.out (Below.refl _ _)
    go_region_held3 (fun wx => wx.cell? ⟨w.heap.size + 1 + 1, 0, none⟩ = some (.int .u8 12) ∧ wx.cell? ⟨w.heap.size + 1, 1, none⟩ = some (.int .i64 m.f.regs) ∧ wx.cell? ⟨w.heap.size + 1 + 1, 2, none⟩ = some (.int .i64 o.a) ∧ wx.cell? ⟨w.heap.size, 0, none⟩ = some (.slice (some ad) l.length c) ∧ wx.cell? ⟨w.heap.size + 1 + 1, 4, none⟩ = some (.int .i64 (q : Int)) ∧ wx.cell? (ad.add (q * 3)) = some (.int .i64 (y : Int)) ∧ Below W.heap.size W wx)
      (first | with_reducible assumption | with_reducible exact HKEEP.out (by with_reducible assumption))
      (first
        | (go_at_call 49; with_reducible refine (HFR.out (by with_reducible assumption)).mono ?_; rintro e y1 ⟨A', c', rfl, hli, hy1⟩)
        | (go_at_call 48; with_reducible refine (HBL.out hli (by with_reducible assumption)).mono ?_; rintro e y2 ⟨rfl, hy2⟩))
    simp only [Exit.then]
    go_at_K
    go_wp2_with fail
    go_ret
    exact ⟨by rw [HE.out]; rfl, HB.out.trans (hy2.mono HB.out.size)⟩
  · have e1 : ((o.k : Int) != 12) = true := by simpa using (by omega : ¬ (o.k : Int) = 12)
    have e2 : ((o.k : Int) == 12) = false := by simpa using (by omega : ¬ (o.k : Int) = 12)
    have HE : Hid (Ck.argOk (Cd.fns l) m.f o = true) := by show _ = _; unfold Ck.argOk; rw [if_neg hk]
    have c0 := hbx.o.c0
    clear hk hbx hb hP hok htg
    go_enter Tryd.func42, Tryd.ntmps42
    go_upto_region 1 with fail
    rw [← hW0, ← s0, ← hW1, s0]
    rw [show w.heap.size + 1 + 1 = W1.heap.size by omega, ← hW, s1]
    clear hW hW1 hW0 s0 s1
    go_region
    all_goals
      go_wp2_with fail
      go_ret
      exact ⟨by rw [HE.out]; rfl, HB.out.drew⟩

set_option maxHeartbeats 2000000 in
set_option maxRecDepth 20000 in
theorem kwrongOp (A : Option Addr) (c : Nat) (l : List Cd.Fm) (w : World) (hP : Ck.PrgP w A l) (m : Cd.Fm) (hm : m.f.ops.length ≤ 64) (o : Cd.OpV) (hok : o.ok = true) :
    Calls Tryd.prog 34 #[.agg #[.slice A l.length c], .agg #[.int .i64 m.f.args, .int .i64 m.f.regs, .slice m.A m.f.ops.length m.c], .agg #[.int .u8 (o.k : Int), .int .i64 o.d, .int .i64 o.a, .int .i64 o.b, .int .i64 o.n]] w
      fun e w' => e = .returned (.int .i64 (Ck.opE (Cd.fns l) m.f o : Int)) ∧ Below w.heap.size w w' := by
  obtain ⟨W0, hW0⟩ : ∃ W0, W0 = w.alloc (.cells #[.slice A l.length c] 24) := ⟨_, rfl⟩
  obtain ⟨W1, hW1⟩ : ∃ W1, W1 = W0.alloc (.cells #[.int .i64 m.f.args, .int .i64 m.f.regs, .slice m.A m.f.ops.length m.c] 41) := ⟨_, rfl⟩
  obtain ⟨W, hW⟩ : ∃ W, W = W1.alloc (.cells #[.int .u8 (o.k : Int), .int .i64 o.d, .int .i64 o.a, .int .i64 o.b, .int .i64 o.n] 44) := ⟨_, rfl⟩
  obtain ⟨hbx, hb, s0, s1, _⟩ := Ck.box3 hW0 hW1 hW
  have HB := Lib.hid hb
  have HBX := Lib.hid hbx
  have HPW := Lib.hid (hP.later hb)
  have HN := Lib.hid hP.n
  have HR := Lib.hid (khasRegs o hok m.f.regs W)
  have HT : Hid (∀ U, Calls Tryd.prog 41 #[.agg #[.slice A l.length c], .agg #[.int .i64 m.f.args, .int .i64 m.f.regs, .slice m.A m.f.ops.length m.c], .agg #[.int .u8 (o.k : Int), .int .i64 o.d, .int .i64 o.a, .int .i64 o.b, .int .i64 o.n]] U fun e w' => e = .returned (.bool (Ck.tgtOk l.length m.f o)) ∧ Below U.heap.size U w') := fun U => khasTgt A l.length c (by have := HN.out; omega) m (by omega) o U
  have HA : Hid (∀ U, Ck.PrgP U A l → Ck.tgtOk l.length m.f o = true → Calls Tryd.prog 42 #[.agg #[.slice A l.length c], .agg #[.int .i64 m.f.args, .int .i64 m.f.regs, .slice m.A m.f.ops.length m.c], .agg #[.int .u8 (o.k : Int), .int .i64 o.d, .int .i64 o.a, .int .i64 o.b, .int .i64 o.n]] U fun e w' => e = .returned (.bool (Ck.argOk (Cd.fns l) m.f o)) ∧ Below U.heap.size U w') := fun U hU ht => khasArgs A c l U hU m o hok ht
  have HE : Hid (Ck.opE (Cd.fns l) m.f o = if Ck.regsOk o m.f.regs then (if Ck.tgtOk l.length m.f o then (if Ck.argOk (Cd.fns l) m.f o then 0 else 111) else 112) else 111) := by show _ = _; unfold Ck.opE; rw [Cd.fns_len]
  generalize Ck.opE (Cd.fns l) m.f o = E at HE ⊢
  generalize Ck.regsOk o m.f.regs = r1 at HR HE
  generalize Ck.tgtOk l.length m.f o = r2 at HT HA HE
  generalize Ck.argOk (Cd.fns l) m.f o = r3 at HA HE
  have c0 := hbx.o.c0
  have c1 := hbx.o.c1
  have c2 := hbx.o.c2
  have c3 := hbx.o.c3
  have c4 := hbx.o.c4
  have f1 := hbx.f.c1
  clear hbx hb hP hok hm
  go_enter Tryd.func34, Tryd.ntmps34
  go_upto_region 1 with fail
  rw [← hW0, ← s0, ← hW1, s0]
  rw [show w.heap.size + 1 + 1 = W1.heap.size by omega, ← hW, s1]
  clear hW hW1 hW0 s0 s1
  go_wp2_with fail
  refine HR.out.mono ?_
  rintro e w1 ⟨rfl, hb1⟩
  have H1 := Lib.hid hb1
  have hx1 := HBX.out.later hb1
  clear hb1 c0 c1 c2 c3 c4 f1 HR
  cases r1 with
  | false =>
    have HE2 : Hid (E = 111) := HE.out
    clear HE HT HA hx1
    go_wp2_with fail
    go_ret
    exact ⟨by rw [HE2.out]; rfl, HB.out.trans (H1.out.mono HB.out.size)⟩
  | true =>
    have c0 := hx1.o.c0
    have c1 := hx1.o.c1
    have c2 := hx1.o.c2
    have c3 := hx1.o.c3
    have c4 := hx1.o.c4
    have f0 := hx1.f.c0
    have f1 := hx1.f.c1
    have f2 := hx1.f.c2
    have p0 := hx1.p.c0
    clear hx1
    go_wp2_with fail
    refine (HT.out _).mono ?_
    rintro e w2 ⟨rfl, hb2⟩
    have H2 := Lib.hid (H1.out.trans (hb2.mono H1.out.size))
    have hx2 := HBX.out.later H2.out
    clear hb2 c0 c1 c2 c3 c4 f0 f1 f2 p0 HT
    cases r2 with
    | false =>
      have HE2 : Hid (E = 112) := HE.out
      clear HE HA hx2
      go_wp2_with fail
      go_ret
      exact ⟨by rw [HE2.out]; rfl, HB.out.trans (H2.out.mono HB.out.size)⟩
    | true =>
      have c0 := hx2.o.c0
      have c1 := hx2.o.c1
      have c2 := hx2.o.c2
      have c3 := hx2.o.c3
      have c4 := hx2.o.c4
      have f0 := hx2.f.c0
      have f1 := hx2.f.c1
      have f2 := hx2.f.c2
      have p0 := hx2.p.c0
      have HA2 := Lib.hid (HA.out w2 (HPW.out.later H2.out) rfl)
      clear hx2 HA
      go_wp2_with fail
      refine HA2.out.mono ?_
      rintro e w3 ⟨rfl, hb3⟩
      have H3 := Lib.hid (H2.out.trans (hb3.mono H2.out.size))
      clear hb3 c0 c1 c2 c3 c4 f0 f1 f2 p0
      cases r3 with
      | false =>
        have HE2 : Hid (E = 111) := HE.out
        clear HE
        go_wp2_with fail
        go_ret
        exact ⟨by rw [HE2.out]; rfl, HB.out.trans (H3.out.mono HB.out.size)⟩
      | true =>
        have HE2 : Hid (E = 0) := HE.out
        clear HE
        go_wp2_with fail
        go_ret
        exact ⟨by rw [HE2.out]; rfl, HB.out.trans (H3.out.mono HB.out.size)⟩
end Go.Proofs.YtndgafjnifkghaaDoor
