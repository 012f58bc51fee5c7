/-
  The contract of code.readFunc: a function is read.
-/
import Derived.Test.YtndgafjnifkghaaCdO
namespace Go.Proofs.Ytndgafjnifkghaa
open Go.RowKit

namespace Cd
theorem fnSize : (Try.prog.info? 41).map (·.size) = some 3 := by kernel_rfl
theorem grown_row {w a b : World} {R : Nat} {row : Option Nat} (h : w.grownBy a (some R)) (hg : a.grownBy b row) (hrow : ∀ k, row = some k → w.heap.size ≤ k) : w.grownBy b (some R) :=
  ⟨hg.os.trans h.os, hg.tape.trans h.tape, hg.output.trans h.output, Nat.le_trans h.size hg.size, fun i hi hne => (hg.block i (Nat.lt_of_lt_of_le hi h.size) (fun e => by have := hrow i e.symm; omega)).trans (h.block i hi hne)⟩
theorem grown_drew {w a : World} {R : Nat} (h : w.grownBy a (some R)) : w.grownBy a.drew (some R) := ⟨h.os, h.tape, h.output, h.size, h.block⟩
/-- A function's block. -/
def FB (w : World) (F : Nat) (a b : Int) (v : Value) : Prop := w.heap[F]? = some (.cells #[.int .i64 a, .int .i64 b, v] 41 (0, 0))
section
variable {w w' : World} {F : Nat} {a b : Int} {v : Value}
theorem FB.lt (h : FB w F a b v) : F < w.heap.size := ltH h
theorem FB.c2 (h : FB w F a b v) : w.cell? ⟨F, 2, none⟩ = some v := cell_of_row _ _ 2 _ _ _ h
theorem FB.f (h : FB w F a b v) (i : Nat) : w.frozen? ⟨F, i, none⟩ = false := Lib.frozen_of_heap h i
theorem FB.of_block (h : FB w F a b v) (hb : w'.heap[F]? = w.heap[F]?) : FB w' F a b v := hb.trans h
theorem FB.set2 (h : FB w F a b v) (u : Value) : FB (w.setCell ⟨F, 2, none⟩ u) F a b u := by
  unfold FB at h ⊢
  simp [World.setCell, Array.getElem?_modify, h]
end
end Cd

set_option maxHeartbeats 1500000 in
set_option maxRecDepth 20000 in
theorem creadFunc (B R : Nat) (hBR : B ≠ R) (s : ByteArray) (f : Nat) (w : World) (h : Wire.RD R s f w) (hs : s.size ≤ maxLen) (hm : Cd.Tbl w B) :
    Calls Try.prog 57 #[.map (some B), .pointer (some ⟨R, 0, none⟩)] w fun e w' => ∃ A c, e = .returned (.agg #[.int .i64 (Cd.rFn s f).1.args, .int .i64 (Cd.rFn s f).1.regs, .slice A (Cd.rFn s f).1.ops.length c]) ∧
      w'.ownsRow w.heap.size 43 5 (.slice A (Cd.rFn s f).1.ops.length c) (Cd.rFn s f).1.ops.length (Cd.ocells (Cd.rFn s f).1.ops) ∧ Wire.After R (Cd.rFn s f).2.1 (Cd.rFn s f).2.2 w w' := by
  obtain ⟨W, hW⟩ : ∃ W, W = w.alloc (.cells #[.int .i64 0, .int .i64 0, .slice none 0 0] 41) := ⟨_, rfl⟩
  have hZ : W.heap[w.heap.size]? = some (.cells #[.int .i64 0, .int .i64 0, .slice none 0 0] 41 (0, 0)) := by rw [hW]; exact heap_alloc_new w _
  have hb : Below w.heap.size w W := by rw [hW]; exact Cd.fn1 _ _ _
  have HRD := Lib.hid (h.below hb)
  have HG : Hid (w.grownBy W (some R)) := grown_of hb _
  have HM := Lib.hid hm
  have HRL := Lib.hid h.lt
  have HZ := Lib.hid hZ
  have HI := Lib.hid Cd.fnSize
  have HMX : Hid (∀ t : ByteArray, t.size ≤ s.size → t.size ≤ maxLen) := fun t ht => Nat.le_trans ht hs
  obtain ⟨a, ha⟩ : ∃ a, a = Cd.rA s f := ⟨_, rfl⟩
  obtain ⟨b, hbe⟩ : ∃ b, b = Cd.rA a.2.1 a.2.2 := ⟨_, rfl⟩
  obtain ⟨q, hq⟩ : ∃ q, q = Cd.rC 64 b.2.1 b.2.2 := ⟨_, rfl⟩
  have HFN : Hid (Cd.rFn s f = (⟨a.1, b.1, (Cd.rOps q.1 q.2.1 q.2.2).1⟩, (Cd.rOps q.1 q.2.1 q.2.2).2)) := by
    show _ = _
    rw [hq, hbe, ha]
    rfl
  have HA := Lib.hid (rUint_any 16 R s f W HRD.out hs)
  have hsa : a.2.1.size ≤ s.size := by rw [ha]; exact Wire.step_size s f
  have hsb : b.2.1.size ≤ s.size := Nat.le_trans (by rw [hbe]; exact Wire.step_size _ _) hsa
  have hsq : q.2.1.size ≤ s.size := Nat.le_trans (by rw [hq]; exact Wire.step_size _ _) hsb
  have hal : a.1 ≤ 16 := by rw [ha]; exact Cd.stepU_le 16 _ _
  have hbl : b.1 ≤ 16 := by rw [hbe]; exact Cd.stepU_le 16 _ _
  have hql : q.1 ≤ 64 := by rw [hq]; exact Cd.rC_le 64 _ _
  have HA2 : Hid (Calls Try.prog 29 #[.pointer (some ⟨R, 0, none⟩), .int .u64 16] W fun e w' => e = .returned (.int .u64 (a.1 : Int)) ∧ Wire.After R a.2.1 a.2.2 W w') := by rw [ha]; exact HA.out
  have HB2 : Hid (∀ U, Wire.RD R a.2.1 a.2.2 U → Calls Try.prog 29 #[.pointer (some ⟨R, 0, none⟩), .int .u64 16] U fun e w' => e = .returned (.int .u64 (b.1 : Int)) ∧ Wire.After R b.2.1 b.2.2 U w') := fun U hU => by rw [hbe]; exact rUint_any 16 R _ _ U hU (HMX.out _ hsa)
  have HQ2 : Hid (∀ U, Wire.RD R b.2.1 b.2.2 U → Calls Try.prog 56 #[.pointer (some ⟨R, 0, none⟩), .int .i64 64] U fun e w' => e = .returned (.int .i64 (q.1 : Int)) ∧ Wire.After R q.2.1 q.2.2 U w') := fun U hU => by rw [hq]; exact rCount_any 64 (by omega) (by omega) R _ _ U hU (HMX.out _ hsb)
  have HSQ := Lib.hid hsq
  clear hZ hb h hm hs HA ha hbe hq hsa hsb hsq
  obtain ⟨av, sA, fA⟩ := a
  obtain ⟨bv, sB, fB⟩ := b
  obtain ⟨qv, qs, qf⟩ := q
  simp only at HFN hal hbl hql HA2 HB2 HQ2 HSQ
  go_enter Try.func57, Try.ntmps57
  go_upto_region 1 with fail
  rw [← hW]
  clear hW
  obtain ⟨Z, hZe⟩ : ∃ Z, Z = w.heap.size := ⟨_, rfl⟩
  rw [← hZe] at HZ ⊢
  have HZE := Lib.hid hZe
  clear hZe
  have hwa : IntKind.i64.wrap (av : Int) = (av : Int) := by rw [IntKind.wrap_i64]; omega
  have hwb : IntKind.i64.wrap (bv : Int) = (bv : Int) := by rw [IntKind.wrap_i64]; omega
  go_wp2_with fail
  refine HA2.out.mono ?_
  rintro e w2 ⟨rfl, hA2⟩
  have HG2 := Lib.hid (Wire.grown_trans HG.out hA2.2)
  have HR2 := Lib.hid hA2.1
  have HZ2 : Hid (w2.heap[Z]? = _) := (hA2.2.block Z (Cd.ltH HZ.out) (fun e => by have := Option.some.inj e; have := HRL.out; have := HZE.out; omega)).trans HZ.out
  clear hA2 HA2 HG HRD HZ
  go_wp2_with fail
  refine (HB2.out _ HR2.out).mono ?_
  rintro e w3 ⟨rfl, hA3⟩
  obtain ⟨F, hF⟩ : ∃ F, F = w3.heap.size := ⟨_, rfl⟩
  obtain ⟨V, hV⟩ : ∃ V, V = w3.alloc (.cells #[.int .i64 (av : Int), .int .i64 (bv : Int), .slice none 0 0] 41) := ⟨_, rfl⟩
  have hbV : Below w3.heap.size w3 V := by rw [hV]; exact Cd.fn1 _ _ _
  have hFV : Cd.FB V F av bv (.slice none 0 0) := by show V.heap[F]? = _; rw [hV, hF]; exact heap_alloc_new w3 _
  have HNE : Hid (R < Z ∧ Z < F ∧ F < V.heap.size) := ⟨by have := HRL.out; have := HZE.out; omega, by have := Cd.ltH HZ2.out; have := hA3.2.size; omega, hFV.lt⟩
  have HR3 := Lib.hid (hA3.1.below hbV)
  have HG3 := Lib.hid (Cd.grown_below (Wire.grown_trans HG2.out hA3.2) hbV)
  have HZ3 : Hid (V.heap[Z]? = _) := (hbV.block Z (by have := Cd.ltH HZ2.out; have := hA3.2.size; omega)).trans ((hA3.2.block Z (Cd.ltH HZ2.out) (fun e => by have := Option.some.inj e; have := HNE.out; omega)).trans HZ2.out)
  have HFV := Lib.hid hFV
  clear hbV hFV hA3 HB2 HG2 HR2 HZ2
  go_upto_region 2 with fail
  rw [← hV, ← hF]
  clear hV hF hwa hwb
  go_wp2_with fail
  refine (HQ2.out _ HR3.out).mono ?_
  rintro e w4 ⟨rfl, hA4⟩
  have HST : Hid (Cd.FB w4 F av bv (.slice none 0 0) ∧ Wire.RD R qs qf w4 ∧ w4.heap[Z]? = some (.cells #[.int .i64 0, .int .i64 0, .slice none 0 0] 41 (0, 0)) ∧ w.grownBy w4 (some R) ∧ V.heap.size ≤ w4.heap.size) :=
    ⟨HFV.out.of_block (hA4.2.block F HFV.out.lt (fun e => by have := Option.some.inj e; have := HNE.out; omega)), hA4.1, (hA4.2.block Z (Cd.ltH HZ3.out) (fun e => by have := Option.some.inj e; have := HNE.out; omega)).trans HZ3.out, Wire.grown_trans HG3.out hA4.2, hA4.2.size⟩
  clear hA4 HQ2 HR3 HG3 HZ3 HFV
  go_wp2_with fail
  go_loopw [15] (fun s15 wr => ∃ (j : Nat) (A : Option Addr) (c : Nat), j ≤ qv ∧ s15 = .int .i64 j ∧ Hid (Cd.FB wr F av bv (.slice A j c) ∧ Wire.RD R (Cd.rOps j qs qf).2.1 (Cd.rOps j qs qf).2.2 wr ∧ wr.heap[Z]? = some (.cells #[.int .i64 0, .int .i64 0, .slice none 0 0] 41 (0, 0)) ∧ w.grownBy wr (some R) ∧ V.heap.size ≤ wr.heap.size) ∧ Hid (wr.ownsRow V.heap.size 43 5 (.slice A j c) j (Cd.ocells (Cd.rOps j qs qf).1))) (fun s15 _ => qv - (intOf s15).toNat)
  case atStart => exact ⟨0, none, 0, Nat.zero_le _, rfl, HST.out, ⟨rfl, .inl ⟨rfl, rfl⟩⟩⟩
  case round =>
    clear HST
    obtain ⟨j, A, c, hj, rfl, HS, HR⟩ := hrel
    by_cases hlt : j < qv
    · have k1 : (j : Int) < qv := by omega
      have HTB := Lib.hid (Cd.Tbl.grown HM.out HS.out.2.2.2.1 hBR)
      have hsz := HMX.out _ (Nat.le_trans (Cd.rOps_size j qs qf) HSQ.out)
      have HC0 := Lib.hid (creadOp B R hBR (Cd.rOps j qs qf).2.1 (Cd.rOps j qs qf).2.2 wr.drew HS.out.2.1 hsz HTB.out)
      have HNX : Hid (Cd.rOps (j + 1) qs qf = ((Cd.rOps j qs qf).1 ++ [(Cd.rOp (Cd.rOps j qs qf).2.1 (Cd.rOps j qs qf).2.2).1], (Cd.rOp (Cd.rOps j qs qf).2.1 (Cd.rOps j qs qf).2.2).2)) := rfl
      generalize Cd.rOps j qs qf = x at HS HR HC0 HNX
      generalize Cd.rOp x.2.1 x.2.2 = y at HC0 HNX
      obtain ⟨o, ys, yf⟩ := y
      have HC : Hid (Calls Try.prog 80 #[.map (some B), .pointer (some ⟨R, 0, none⟩)] wr.drew fun e w' => ∃ v, e = .returned v ∧ v = .agg #[.int .u8 (o.k : Int), .int .i64 o.d, .int .i64 o.a, .int .i64 o.b, .int .i64 o.n] ∧ Wire.After R ys yf wr.drew w') := HC0.out.mono fun e w' hh => ⟨_, hh.1, rfl, hh.2⟩
      have cF := HS.out.1.c2
      have hj100 : j ≤ 100000 := by omega
      clear hsz hlt HC0 HTB
      go_upto_region 4 with fail
      go_region_law (first
        | (refine Cd.opush_step hrow5 (by rfl) _ _ (by rfl) (by rfl) (by rfl) o (by rfl) hj100 hsz5 ?_
           intro g cap w6 hown6 hgr6
           have hF6 := hFa.of_block (hgr6.block F hFa.lt (fun e => by have h1 := (hrow5.lt F e.symm).1; have := HNE.out; omega))
           have cF6 := hF6.c2
           have fF6 := hF6.f 2)
        | (refine Cd.step_call 80 #[.map (some B), .pointer (some ⟨R, 0, none⟩)] (fun v w' => v = .agg #[.int .u8 (o.k : Int), .int .i64 o.d, .int .i64 o.a, .int .i64 o.b, .int .i64 o.n] ∧ Wire.After R ys yf wr.drew w') (by rfl) (by kernel_rfl) HC.out ?_
           rintro v w5 ⟨rfl, hA5⟩
           have hF5 : Cd.FB w5 F av bv (.slice A j c) := HS.out.1.of_block (hA5.2.block F HS.out.1.lt (fun e => by have := Option.some.inj e; have := HNE.out; omega))
           have cF5 := hF5.c2
           have hrow5 : w5.ownsRow V.heap.size 43 5 (.slice A j c) j (Cd.ocells x.1) := Cd.rowKeep HR.out (fun p hp => hA5.2.block p (HR.out.lt p hp).2 (fun e => by have := Option.some.inj e; have h1 := (HR.out.lt p hp).1; have := HNE.out; omega))
           have hsz5 : V.heap.size ≤ w5.heap.size := Nat.le_trans HS.out.2.2.2.2 hA5.2.size
           have hFa : Cd.FB (w5.alloc (.cells #[.int .u8 (o.k : Int), .int .i64 o.d, .int .i64 o.a, .int .i64 o.b, .int .i64 o.n] 43)) F av bv (.slice A j c) := hF5.of_block ((Cd.fn1 w5 _ _).block F hF5.lt)
           have cFa := hFa.c2))
      all_goals
        have hsep : ∀ p, (Value.slice A j c).ownBlock = some p → V.heap.size ≤ p := fun p hp => (hrow5.lt p hp).1
        have hw0 : w.heap.size ≤ wr.heap.size := HS.out.2.2.2.1.size
        have hVw : w.heap.size ≤ V.heap.size := by have := HNE.out; have := HZE.out; omega
        obtain ⟨U, hU⟩ : ∃ U, U = w5.alloc (.cells #[.int .u8 (o.k : Int), .int .i64 o.d, .int .i64 o.a, .int .i64 o.b, .int .i64 o.n] 43) := ⟨_, rfl⟩
        have hbU : Below w5.heap.size w5 U := by rw [hU]; exact Cd.fn1 _ _ _
        rw [← hU] at hgr6
        have hZ5 : w5.heap[Z]? = some (.cells #[.int .i64 0, .int .i64 0, .slice none 0 0] 41 (0, 0)) := (hA5.2.block Z (Cd.ltH HS.out.2.2.1) (fun e => by have := Option.some.inj e; have := HNE.out; omega)).trans HS.out.2.2.1
        have hR5 : R < w5.heap.size := hA5.1.lt
        have hRne : ∀ q, q < V.heap.size → some q ≠ (Value.slice A j c).ownBlock := fun q hq e => by have := hsep q e.symm; omega
        have HNEW : Hid (Cd.FB (w6.setCell ⟨F, 2, none⟩ (.slice (some ⟨g, 0, none⟩) (j + 1) cap)) F av bv (.slice (some ⟨g, 0, none⟩) (j + 1) cap) ∧ Wire.RD R ys yf (w6.setCell ⟨F, 2, none⟩ (.slice (some ⟨g, 0, none⟩) (j + 1) cap)) ∧ (w6.setCell ⟨F, 2, none⟩ (.slice (some ⟨g, 0, none⟩) (j + 1) cap)).heap[Z]? = some (.cells #[.int .i64 0, .int .i64 0, .slice none 0 0] 41 (0, 0)) ∧ w.grownBy (w6.setCell ⟨F, 2, none⟩ (.slice (some ⟨g, 0, none⟩) (j + 1) cap)) (some R) ∧ V.heap.size ≤ (w6.setCell ⟨F, 2, none⟩ (.slice (some ⟨g, 0, none⟩) (j + 1) cap)).heap.size) := by
          refine ⟨hF6.set2 _, ?_, ?_, ?_, ?_⟩
          · exact (Below.heap_setCell _ _ _ _ (by have := HNE.out; intro e; try dsimp only at e; omega)).trans ((hgr6.block R (Nat.lt_of_lt_of_le hR5 hbU.size) (hRne R (by have := HNE.out; omega))).trans ((hbU.block R hR5).trans hA5.1))
          · exact (Below.heap_setCell _ _ _ _ (by have := HNE.out; intro e; try dsimp only at e; omega)).trans ((hgr6.block Z (Nat.lt_of_lt_of_le (Cd.ltH hZ5) hbU.size) (hRne Z (by have := HNE.out; omega))).trans ((hbU.block Z (Cd.ltH hZ5)).trans hZ5))
          · exact Cd.grown_setX (Cd.grown_row (Cd.grown_below (Wire.grown_trans (Cd.grown_drew HS.out.2.2.2.1) hA5.2) hbU) hgr6 (fun p hp => Nat.le_trans hVw (hsep p hp))) (by have := HNE.out; have := HZE.out; omega)
          · have h1 := hbU.size
            have h2 := hgr6.size
            simp [World.setCell]
            omega
        have HRN : Hid ((w6.setCell ⟨F, 2, none⟩ (.slice (some ⟨g, 0, none⟩) (j + 1) cap)).ownsRow V.heap.size 43 5 (.slice (some ⟨g, 0, none⟩) (j + 1) cap) (j + 1) (Cd.ocells (x.1 ++ [o]))) := by
          show World.ownsRow _ _ _ _ _ _ _
          rw [Cd.ocells_snoc]
          exact Cd.rowKeep hown6 (fun p hp => Below.heap_setCell _ _ _ _ (by intro e; have h1 := (hown6.lt p hp).1; have := HNE.out; try dsimp only at e; omega))
        clear hsep hw0 hVw hU hbU hgr6 hZ5 hR5 hRne hF6 hown6 hA5 hF5 hrow5 hFa cF6 fF6 cF5 cFa cF
        go_wp2_with fail
        go_roundw
        case rel => exact ⟨j + 1, some ⟨g, 0, none⟩, cap, by omega, by go_num, by rw [HNX.out]; exact HNEW.out, by rw [HNX.out]; exact HRN.out⟩
        case measure => simp [intOf]; omega
    · obtain rfl : j = qv := by omega
      have k1 : ¬ ((j : Int) < j) := by omega
      have HL := Lib.hid (Cd.rOps_len j qs qf)
      clear hlt
      go_wp2_with (first
        | refine wpList_load_row rfl 41 (.tmp 5) rfl F rfl 41 #[.int .i64 (av : Int), .int .i64 (bv : Int), .slice A j c] (0, 0) _ HS.out.1 Try.underlying41 rfl HI.out ?_
        | refine wpList_store_row rfl 41 (.tmp 4) (.tmp 26) rfl Z #[.int .i64 (av : Int), .int .i64 (bv : Int), .slice A j c] rfl rfl 41 _ HS.out.2.2.1 HI.out rfl (by simp [Value.oneCell']) ?_)
      try simp only [Exit.inBlock, Exit.then]
      refine bodyPost_ret (v := .agg #[.int .i64 (av : Int), .int .i64 (bv : Int), .slice A j c]) (results_cell_row Try.results57 _ _ Z 41 #[.int .i64 (av : Int), .int .i64 (bv : Int), .slice A j c] (0, 0) _ rfl (setRow_heap _ _ _ _ _ _ HS.out.2.2.1) Try.underlying41 rfl HI.out) rfl ⟨A, c, ?_, ?_, ?_⟩
      · rw [HFN.out]
        simp only [HL.out]
      · rw [HFN.out]
        simp only [HL.out]
        exact Cd.rowKeep (Cd.rowBase HR.out (by have := HNE.out; have := HZE.out; omega)) (fun p hp => setRow_other _ Z p _ (by have h1 := (HR.out.lt p hp).1; have := HNE.out; omega))
      · rw [HFN.out]
        exact ⟨(setRow_other _ Z R _ (by have := HNE.out; omega)).trans HS.out.2.1, Cd.grown_setRow HS.out.2.2.2.1 (by have := HZE.out; omega)⟩
end Go.Proofs.Ytndgafjnifkghaa
