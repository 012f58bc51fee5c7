/-
  The document's May, Input (layer 11).
-/
import Derived.Test.YtndgafjnifkghaaDoorChI
namespace Go.Proofs.YtndgafjnifkghaaDoor
open Go.RowKit

namespace Ck
theorem cell_keep {w U : World} {a : Addr} {v : Value} (h : w.cell? a = some v) (hb : Below w.heap.size w U) : U.cell? a = some v := by
  by_cases hlt : a.block < w.heap.size
  · exact (World.cell?_of_block (hb.block _ hlt)).trans h
  · have hn : w.heap[a.block]? = none := Array.getElem?_eq_none (by omega)
    simp [World.cell?, hn] at h
theorem fnE_args {p : List Cd.FnV} {f : Cd.FnV} (h : f.regs < f.args) : fnE p f = (110, 0) := by unfold fnE; rw [if_pos h]
theorem fnE_op {p : List Cd.FnV} {f : Cd.FnV} (h : ¬ f.regs < f.args) {k : Nat} (hj : ∀ i (hi : i < f.ops.length), i < k → opE p f f.ops[i] = 0) (hk : k < f.ops.length) (he : opE p f f.ops[k] ≠ 0) : fnE p f = (opE p f f.ops[k], k) := by
  have := opsE_at (j := 0) hj hk he
  rw [Nat.zero_add] at this
  unfold fnE
  rw [if_neg h, this, if_neg he]
theorem fnE_end {p : List Cd.FnV} {f : Cd.FnV} (h : ¬ f.regs < f.args) (hj : ∀ i (hi : i < f.ops.length), opE p f f.ops[i] = 0) : fnE p f = endE f := by
  unfold fnE
  rw [if_neg h, opsE_no hj, if_pos rfl]
theorem chk_fn {l : List Cd.Fm} {k : Nat} (hk : k < l.length) (hp : Cd.pok (Cd.fns l) = true) (hj : ∀ j (hj : j < l.length), j < k → (fnE (Cd.fns l) l[j].f).1 = 0) {e op : Nat} (he : fnE (Cd.fns l) l[k].f = (e, op)) (h0 : e ≠ 0) : chk (Cd.fns l) = (e, k, op) := by
  obtain ⟨hkl, ek⟩ := fns_at hk
  have h1 : (fnE (Cd.fns l) (Cd.fns l)[k]).1 ≠ 0 := by rw [ek, he]; exact h0
  have := fnsE_at (p := Cd.fns l) (l := Cd.fns l) (k := k) (j := 0) (fun j hj' hjk => by
    have hj2 : j < l.length := by rwa [Cd.fns_len] at hj'
    obtain ⟨_, ej⟩ := fns_at hj2
    rw [ej]
    exact hj j hj2 hjk) hkl h1
  rw [chk_go hp (fun e0 => by rw [e0] at hkl; simp at hkl), this, ek, he, Nat.zero_add]
theorem chk_all {l : List Cd.Fm} (h0 : l.length ≠ 0) (hp : Cd.pok (Cd.fns l) = true) (hj : ∀ j (hj : j < l.length), (fnE (Cd.fns l) l[j].f).1 = 0) : chk (Cd.fns l) = (0, 0, 0) := by
  rw [chk_go hp (fun e0 => h0 (by rw [← Cd.fns_len l, e0]; rfl))]
  exact fnsE_no (fun j hj' => by
    have hj2 : j < l.length := by rwa [Cd.fns_len] at hj'
    obtain ⟨_, ej⟩ := fns_at hj2
    rw [ej]
    exact hj j hj2)
theorem endE_none {f : Cd.FnV} (h : f.ops.length = 0) : endE f = (113, 0) := by unfold endE; rw [List.eq_nil_of_length_eq_zero h]; rfl
theorem endE_some {f : Cd.FnV} (h : f.ops.length - 1 < f.ops.length) : endE f = if ends f.ops[f.ops.length - 1].k then (0, 0) else (113, f.ops.length - 1) := by
  unfold endE
  rw [List.getLast?_eq_getElem?, List.getElem?_eq_getElem h]
end Ck

set_option maxHeartbeats 3000000 in
set_option maxRecDepth 20000 in
theorem rMay11 (A : Option Addr) (c : Nat) (l : List Cd.Fm) (w : World) (hR : ∀ m ∈ l, m.f.Rng) (hn : l.length ≤ maxLen) (hP : Cd.Prog w w.heap.size A l) :
    Calls Tryd.prog 7 #[.agg #[.slice A l.length c]] w fun e w' => e = .returned (.tuple #[.int .i64 ((Ck.chk (Cd.fns l)).1 : Int), .int .i64 ((Ck.chk (Cd.fns l)).2.1 : Int), .int .i64 ((Ck.chk (Cd.fns l)).2.2 : Int)]) ∧ Below w.heap.size w w' := by
  obtain ⟨W, hW⟩ : ∃ W, W = w.alloc (.cells #[.slice A l.length c] 24) := ⟨_, rfl⟩
  have hb : Below w.heap.size w W := by rw [hW]; exact Cd.fn1 _ _ _
  have hX : Cd.PBlk W w.heap.size (.slice A l.length c) := by show W.heap[_]? = _; rw [hW]; exact heap_alloc_new w _
  have HB := Lib.hid hb
  have HX := Lib.hid hX
  have p0 := hX.c0
  have hPW := (hP.below hb).mono hb.size
  have HM := Lib.hid (rMay10 l hR hn A c W hPW)
  have HOK : Hid (Cd.pok (Cd.fns l) = true → Ck.PrgP W A l) := fun h => by
    rw [Cd.pok_iff, Bool.and_eq_true, decide_eq_true_eq, List.all_eq_true] at h
    exact ⟨hPW, hR, h.1, h.2⟩
  have HCB : Hid (Cd.pok (Cd.fns l) = false → Ck.chk (Cd.fns l) = (8, 0, 0)) := fun h => Ck.chk_bad h
  have HCN : Hid (Cd.pok (Cd.fns l) = true → l.length = 0 → Ck.chk (Cd.fns l) = (110, 0, 0)) := fun h h0 => Ck.chk_none h (by unfold Cd.fns; rw [List.eq_nil_of_length_eq_zero h0]; rfl)
  have HCA : Hid (Cd.pok (Cd.fns l) = true → l.length ≠ 0 → (∀ j (hj : j < l.length), (Ck.fnE (Cd.fns l) l[j].f).1 = 0) → Ck.chk (Cd.fns l) = (0, 0, 0)) := fun h h0 h1 => Ck.chk_all h0 h h1
  have HCF : Hid (Cd.pok (Cd.fns l) = true → ∀ k (hk : k < l.length), (∀ j (hj : j < l.length), j < k → (Ck.fnE (Cd.fns l) l[j].f).1 = 0) → ∀ e op, Ck.fnE (Cd.fns l) l[k].f = (e, op) → e ≠ 0 → Ck.chk (Cd.fns l) = (e, k, op)) := fun h k hk hj e op he h0 => Ck.chk_fn hk h hj he h0
  generalize Ck.chk (Cd.fns l) = r at HCB HCN HCA HCF ⊢
  obtain ⟨r0, r1, r2⟩ := r
  simp only [Prod.mk.injEq] at HCB HCN HCA HCF
  dsimp only
  generalize Cd.pok (Cd.fns l) = q at HM HOK HCB HCN HCA HCF
  unfold maxLen at hn
  clear hb hX hP hPW hR
  go_enter Tryd.func7, Tryd.ntmps7
  go_upto_region 1 with fail
  rw [← hW]
  clear hW
  obtain ⟨X, hXe⟩ : ∃ X, X = w.heap.size := ⟨_, rfl⟩
  rw [← hXe] at HX p0 ⊢
  clear hXe
  go_wp2_with fail
  refine HM.out.mono ?_
  rintro e w1 ⟨rfl, hb1⟩
  have H1 := Lib.hid hb1
  have p0 := (HX.out.of_block (hb1.block _ HX.out.lt)).c0
  clear hb1 HM
  cases q with
  | false =>
    obtain ⟨rfl, rfl, rfl⟩ := HCB.out rfl
    clear HOK HCB HCN HCA HCF
    go_wp2_with fail
    go_ret3
    exact ⟨rfl, HB.out.trans (H1.out.mono HB.out.size)⟩
  | true =>
    by_cases h0 : l.length = 0
    · obtain ⟨rfl, rfl, rfl⟩ := HCN.out rfl h0
      have e0 : ((l.length : Int) == 0) = true := by rw [beq_iff_eq]; omega
      clear HOK HCB HCN HCA HCF h0
      go_wp2_with fail
      go_ret3
      exact ⟨rfl, HB.out.trans (H1.out.mono HB.out.size)⟩
    · have HALL := Lib.hid (HCA.out rfl h0)
      have HFN := Lib.hid (HCF.out rfl)
      have e0 : ((l.length : Int) == 0) = false := by rw [beq_eq_false_iff_ne]; omega
      have HP := Lib.hid (HOK.out rfl)
      clear HOK HCB HCN HCA HCF h0
      go_wp2_with fail
      clear p0
      go_loopw [5] (fun s5 wr => ∃ k : Nat, k ≤ l.length ∧ s5 = .int .i64 k ∧ Hid (∀ j (hj : j < l.length), j < k → (Ck.fnE (Cd.fns l) l[j].f).1 = 0) ∧ Hid (Below W.heap.size W wr)) (fun s5 _ => l.length - (intOf s5).toNat)
      case atStart => exact ⟨0, Nat.zero_le _, rfl, (show Hid _ from fun j _ h => by omega), H1.out⟩
      case round =>
        obtain ⟨k, hk, rfl, HK, HBW⟩ := hrel
        have HXr := Lib.hid (HX.out.of_block (HBW.out.block _ HX.out.lt))
        have p0 := HXr.out.c0
        by_cases hlt : k < l.length
        · have k0 : (0 : Int) ≤ (k : Int) := by omega
          have k1 : (k : Int) < (l.length : Int) := by omega
          have HPR := Lib.hid (HP.out.later HBW.out)
          have HFK : Hid (∀ e op, Ck.fnE (Cd.fns l) l[k].f = (e, op) → e ≠ 0 → r0 = e ∧ r1 = k ∧ r2 = op) := HFN.out k hlt HK.out
          have HK2 : Hid ((Ck.fnE (Cd.fns l) l[k].f).1 = 0 → ∀ j (hj : j < l.length), j < k + 1 → (Ck.fnE (Cd.fns l) l[j].f).1 = 0) := fun h j hj hjk => by
            rcases Nat.lt_succ_iff_lt_or_eq.1 hjk with h1 | rfl
            · exact HK.out j hj h1
            · exact h
          have hmem := List.getElem_mem hlt
          have HLI := Lib.hid (HPR.out.p.os _ hmem)
          obtain ⟨-, hrg, h64, hops⟩ := Cd.FnV.ok_parts (HPR.out.k _ hmem)
          obtain ⟨ad, rfl, -, d0, d1, d2⟩ := Cd.fn_at HPR.out.p.fs hlt
          generalize l[k] = m at d0 d1 d2 HLI hrg hops h64 HFK HK2
          clear hmem
          obtain ⟨g, AO, mc⟩ := m
          dsimp only at d0 d1 d2 HLI hrg hops h64 HFK HK2
          have HOPS := Lib.hid hops
          have hr16 : 0 ≤ g.regs ∧ g.regs ≤ 16 := by obtain ⟨y, hy, hy2⟩ := hrg; omega
          obtain ⟨V, hV⟩ : ∃ V, V = wr.alloc (.cells #[.int .i64 g.args, .int .i64 g.regs, .slice AO g.ops.length mc] 41) := ⟨_, rfl⟩
          have hbV : Below wr.heap.size wr V := by rw [hV]; exact Cd.fn1 _ _ _
          have HFB : Hid (Cd.FB V wr.heap.size g.args g.regs (.slice AO g.ops.length mc)) := by show V.heap[_]? = _; rw [hV]; exact heap_alloc_new wr _
          have HBV := Lib.hid (HBW.out.trans (hbV.mono HBW.out.size))
          have HXV := Lib.hid (HXr.out.of_block (hbV.block _ HXr.out.lt))
          have HPV := Lib.hid (HPR.out.later hbV)
          have HLV := Lib.hid ((HLI.out.below hbV).mono hbV.size)
          clear hops hrg hbV HLI HPR HBW HK hlt
          go_upto_region 9 with fail
          rw [← hV]
          clear hV p0 d0 d1 d2 HXr
          generalize wr.heap.size = F at HFB ⊢
          have f0 := HFB.out.c0
          have f1 := HFB.out.c1
          by_cases hra : g.regs < g.args
          · obtain ⟨rfl, rfl, rfl⟩ := HFK.out 110 0 (Ck.fnE_args hra) (by omega)
            have hd : decide (g.regs < g.args) = true := by simpa using hra
            clear HFK HK2
            go_wp2_with fail
            go_ret3
            exact ⟨rfl, HB.out.trans (HBV.out.mono HB.out.size)⟩
          · have hd : decide (g.regs < g.args) = false := by simpa using hra
            have HOPE : Hid (∀ j, (∀ i (hi : i < g.ops.length), i < j → Ck.opE (Cd.fns l) g g.ops[i] = 0) → ∀ (hj : j < g.ops.length), Ck.opE (Cd.fns l) g g.ops[j] ≠ 0 → r0 = Ck.opE (Cd.fns l) g g.ops[j] ∧ r1 = k ∧ r2 = j) := fun j hi hj he => HFK.out _ _ (Ck.fnE_op hra hi hj he) he
            have HEND : Hid ((∀ i (hi : i < g.ops.length), Ck.opE (Cd.fns l) g g.ops[i] = 0) → Ck.fnE (Cd.fns l) g = Ck.endE g) := fun hi => Ck.fnE_end hra hi
            go_wp2_with fail
            clear f0 f1
            go_loopw [7] (fun s7 wr => ∃ j : Nat, j ≤ g.ops.length ∧ s7 = .int .i64 j ∧ Hid (∀ i (hi : i < g.ops.length), i < j → Ck.opE (Cd.fns l) g g.ops[i] = 0) ∧ Hid (Below V.heap.size V wr)) (fun s7 _ => g.ops.length - (intOf s7).toNat)
            case atStart => exact ⟨0, Nat.zero_le _, rfl, (show Hid _ from fun j _ h => by omega), Below.refl _ _⟩
            case round =>
              obtain ⟨j, hj, rfl, HJ, HBQ⟩ := hrel
              have HXq := Lib.hid (HXV.out.of_block (HBQ.out.block _ HXV.out.lt))
              have HFq := Lib.hid (HFB.out.of_block (HBQ.out.block _ HFB.out.lt))
              have HLq := Lib.hid (HLV.out.below HBQ.out)
              have f2 := HFq.out.c2
              by_cases hlj : j < g.ops.length
              · have j0 : (0 : Int) ≤ (j : Int) := by omega
                have j1 : (j : Int) < (g.ops.length : Int) := by omega
                have p0 := HXq.out.c0
                have f0 := HFq.out.c0
                have f1 := HFq.out.c1
                have HPq := Lib.hid (HPV.out.later HBQ.out)
                have HJ2 : Hid (Ck.opE (Cd.fns l) g g.ops[j] = 0 → ∀ i (hi : i < g.ops.length), i < j + 1 → Ck.opE (Cd.fns l) g g.ops[i] = 0) := fun h i hi hij => by
                  rcases Nat.lt_succ_iff_lt_or_eq.1 hij with h1 | rfl
                  · exact HJ.out i hi h1
                  · exact h
                have HJ3 : Hid (Ck.opE (Cd.fns l) g g.ops[j] ≠ 0 → r0 = Ck.opE (Cd.fns l) g g.ops[j] ∧ r1 = k ∧ r2 = j) := HOPE.out j HJ.out hlj
                obtain ⟨ado, rfl, -, c0, c1, c2, c3, c4⟩ := Cd.op_at HLq.out hlj
                have HWO : Hid (∀ {U : World}, Below wr.heap.size wr U → Calls Tryd.prog 17 #[.agg #[.slice (some ad) l.length c], .agg #[.int .i64 g.args, .int .i64 g.regs, .slice (some ado) g.ops.length mc], .agg #[.int .u8 (g.ops[j].k : Int), .int .i64 g.ops[j].d, .int .i64 g.ops[j].a, .int .i64 g.ops[j].b, .int .i64 g.ops[j].n]] U
                  fun e w' => e = .returned (.int .i64 (Ck.opE (Cd.fns l) g g.ops[j] : Int)) ∧ Below wr.heap.size wr w') := fun {U} hU => by
                  refine (rOp11 (some ad) c l U (HPq.out.later hU) (⟨g, some ado, mc⟩ : Cd.Fm) h64 hr16 g.ops[j] (HOPS.out _ (List.getElem_mem hlj))).mono ?_
                  rintro e w' ⟨he, hb⟩
                  exact ⟨he, hU.trans (hb.mono hU.size)⟩
                generalize Ck.opE (Cd.fns l) g g.ops[j] = e at HWO HJ2 HJ3
                generalize g.ops[j] = o at c0 c1 c2 c3 c4 HWO
                have HKEEP : Hid (∀ {U : World}, Below wr.heap.size wr U → U.cell? ⟨X, 0, none⟩ = some (.slice (some ad) l.length c) ∧ U.cell? ⟨F, 0, none⟩ = some (.int .i64 g.args) ∧ U.cell? ⟨F, 1, none⟩ = some (.int .i64 g.regs) ∧ U.cell? ⟨F, 2, none⟩ = some (.slice (some ado) g.ops.length mc) ∧
                  U.cell? (ado.add (j * 5)) = some (.int .u8 (o.k : Int)) ∧ U.cell? ⟨(ado.add (j * 5)).block, (ado.add (j * 5)).off + 1, none⟩ = some (.int .i64 o.d) ∧ U.cell? ⟨(ado.add (j * 5)).block, (ado.add (j * 5)).off + 2, none⟩ = some (.int .i64 o.a) ∧ U.cell? ⟨(ado.add (j * 5)).block, (ado.add (j * 5)).off + 3, none⟩ = some (.int .i64 o.b) ∧ U.cell? ⟨(ado.add (j * 5)).block, (ado.add (j * 5)).off + 4, none⟩ = some (.int .i64 o.n) ∧ Below wr.heap.size wr U) := fun {U} hU =>
                  ⟨Ck.cell_keep p0 hU, Ck.cell_keep f0 hU, Ck.cell_keep f1 hU, Ck.cell_keep f2 hU, Ck.cell_keep c0 hU, Ck.cell_keep c1 hU, Ck.cell_keep c2 hU, Ck.cell_keep c3 hU, Ck.cell_keep c4 hU, hU⟩
                have bb := (Below.refl wr.heap.size wr).drew
                have hks := HKEEP.out (Below.refl _ _)
                clear hlj
                go_wp2_with fail
                clear p0 f0 f1 f2 c0 c1 c2 c3 c4
                go_region_held3 (fun wx => wx.cell? ⟨X, 0, none⟩ = some (.slice (some ad) l.length c) ∧ wx.cell? ⟨F, 0, none⟩ = some (.int .i64 g.args) ∧ wx.cell? ⟨F, 1, none⟩ = some (.int .i64 g.regs) ∧ wx.cell? ⟨F, 2, none⟩ = some (.slice (some ado) g.ops.length mc) ∧ wx.cell? (ado.add (j * 5)) = some (.int .u8 (o.k : Int)) ∧ wx.cell? ⟨(ado.add (j * 5)).block, (ado.add (j * 5)).off + 1, none⟩ = some (.int .i64 o.d) ∧ wx.cell? ⟨(ado.add (j * 5)).block, (ado.add (j * 5)).off + 2, none⟩ = some (.int .i64 o.a) ∧ wx.cell? ⟨(ado.add (j * 5)).block, (ado.add (j * 5)).off + 3, none⟩ = some (.int .i64 o.b) ∧ wx.cell? ⟨(ado.add (j * 5)).block, (ado.add (j * 5)).off + 4, none⟩ = some (.int .i64 o.n) ∧ Below wr.heap.size wr wx)
                  (first | with_reducible assumption | with_reducible exact HKEEP.out (by with_reducible assumption))
                  (with_reducible refine (HWO.out (by with_reducible assumption)).mono ?_; rintro e y1 ⟨rfl, hy1⟩)
                simp only [Exit.then]
                go_at_K
                have H3 := Lib.hid (HBQ.out.trans (hy1.mono HBQ.out.size))
                clear hks bb hy1 HKEEP HWO
                by_cases he : e = 0
                · have HJ4 := Lib.hid (HJ2.out he)
                  have hei : ((e : Int) != 0) = false := by simpa using (by omega : (e : Int) = 0)
                  subst he
                  clear HJ2 HJ3
                  go_wp2_with fail
                  go_roundw
                  case rel => exact ⟨j + 1, by omega, by go_num, HJ4.out, H3.out⟩
                  case measure => simp [intOf]; omega
                · obtain ⟨rfl, rfl, rfl⟩ := HJ3.out he
                  have hei : ((r0 : Int) != 0) = true := by simpa using (by omega : ¬ (r0 : Int) = 0)
                  clear HJ2 HJ3 he
                  go_wp2_with fail
                  go_ret3
                  exact ⟨rfl, HB.out.trans ((HBV.out.trans (H3.out.mono HBV.out.size)).mono HB.out.size)⟩
              · have j1 : ¬ (j : Int) < (g.ops.length : Int) := by omega
                have HE := Lib.hid (HEND.out (fun i hi => HJ.out i hi (by omega)))
                have HBR := Lib.hid (HBV.out.trans (HBQ.out.mono HBV.out.size))
                clear hlj
                by_cases hz : g.ops.length = 0
                · obtain ⟨rfl, rfl, rfl⟩ := HFK.out 113 0 (by rw [HE.out, Ck.endE_none hz]) (by omega)
                  have hzb : ((g.ops.length : Int) == 0) = true := by rw [beq_iff_eq]; omega
                  clear hz HE HFK HK2 HOPE HEND
                  go_wp2_with fail
                  go_ret3
                  exact ⟨rfl, HB.out.trans (HBR.out.mono HB.out.size)⟩
                · have hzb : ((g.ops.length : Int) == 0) = false := by rw [beq_eq_false_iff_ne]; omega
                  obtain ⟨N, hN⟩ : ∃ N, N = g.ops.length - 1 := ⟨_, rfl⟩
                  have hNl : N < g.ops.length := by omega
                  have HE2 : Hid (Ck.fnE (Cd.fns l) g = if Ck.ends g.ops[N].k then (0, 0) else (113, N)) := by
                    show _ = _
                    subst hN
                    rw [HE.out, Ck.endE_some hNl]
                  have hsub : IntKind.i64.wrap ((g.ops.length : Int) - 1) = (N : Int) := by rw [IntKind.wrap_i64]; omega
                  have n0 : (0 : Int) ≤ (N : Int) := by omega
                  have n1 : (N : Int) < (g.ops.length : Int) := by omega
                  obtain ⟨ado, rfl, -, c0, -, -, -, -⟩ := Cd.op_at HLq.out hNl
                  generalize g.ops[N].k = kk at c0 HE2
                  clear hz HE HOPE HEND hN hNl
                  by_cases hk10 : kk = 10
                  · subst hk10
                    have HZ := Lib.hid (HK2.out (by rw [HE2.out]; rfl))
                    clear HE2 HFK HK2
                    go_wp2_with fail
                    go_roundw
                    case rel => exact ⟨k + 1, by omega, by go_num, HZ.out, HBR.out⟩
                    case measure => simp [intOf]; omega
                  · by_cases hk14 : kk = 14
                    · subst hk14
                      have HZ := Lib.hid (HK2.out (by rw [HE2.out]; rfl))
                      clear HE2 HFK HK2
                      go_wp2_with fail
                      go_roundw
                      case rel => exact ⟨k + 1, by omega, by go_num, HZ.out, HBR.out⟩
                      case measure => simp [intOf]; omega
                    · obtain ⟨rfl, rfl, rfl⟩ := HFK.out 113 N (by rw [HE2.out]; unfold Ck.ends; rw [decide_eq_false hk10, decide_eq_false hk14]; rfl) (by omega)
                      have e1 : ((kk : Int) != 10) = true := by simpa using (by omega : ¬ (kk : Int) = 10)
                      have e2 : ((kk : Int) != 14) = true := by simpa using (by omega : ¬ (kk : Int) = 14)
                      clear HE2 HFK HK2 hk10 hk14
                      go_wp2_with fail
                      go_ret3
                      exact ⟨rfl, HB.out.trans (HBR.out.mono HB.out.size)⟩
        · have k1 : ¬ (k : Int) < (l.length : Int) := by omega
          obtain ⟨rfl, rfl, rfl⟩ := HALL.out (fun j hj => HK.out j hj (by omega))
          clear hlt HK HFN HALL
          go_wp2_with fail
          go_ret3
          exact ⟨rfl, HB.out.trans (HBW.out.mono HB.out.size)⟩
end Go.Proofs.YtndgafjnifkghaaDoor
