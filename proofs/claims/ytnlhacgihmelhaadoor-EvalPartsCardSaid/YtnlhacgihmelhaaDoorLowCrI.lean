/-
  The document's Decode (layer 10).
  The document's Copy (layer 10).
-/
import Derived.Test.YtnlhacgihmelhaaDoorLowCrG
import Derived.Test.YtnlhacgihmelhaaDoorLowCdU
import Derived.Lib.AppendZeros
section
namespace Go.Proofs.YtnlhacgihmelhaaDoor
open Go.RowKit

namespace Cd
theorem dOp_size (s : ByteArray) (f : Nat) : (dOp s f).2.1.size ≤ s.size := by
  have hk : (dKind s f).2.1.size ≤ s.size := by
    unfold dKind
    split
    · exact Wire.step_size _ _
    · exact Wire.step_size _ _
  have hh : (dHead s f).2.1.size ≤ s.size := Nat.le_trans (rRegs_size _ _) hk
  unfold dOp
  split
  · exact Nat.le_trans (Wire.step_size _ _) hh
  · exact hh
theorem FB.set1 {w : World} {F : Nat} {a b : Int} {v : Value} (h : FB w F a b v) (x : Int) : FB (w.setCell ⟨F, 1, none⟩ (.int .i64 x)) F a x v := by
  unfold FB at h ⊢
  simp [World.setCell, Array.getElem?_modify, h]
end Cd

end Go.Proofs.YtnlhacgihmelhaaDoor
end

section
namespace Go.Proofs.YtnlhacgihmelhaaDoor
open Go.RowKit

namespace Cd
/-- Ops that lie somewhere, or are none, are appended to a slice of the call's own. -/
theorem append_ops (w : World) (base : Nat) (v : Value) (n : Nat) (xs : List Value) (hown : w.ownsRow base 57 5 v n xs) (A : Option Addr) (l : List OpV) (c : Nat)
    (hsrc : 0 < l.length → ∃ ad, A = some ad ∧ ∀ j u, (ocells l)[j]? = some u → w.cell? (ad.add j) = some u) (hn : n + l.length ≤ 1000000) (hbase : base ≤ w.heap.size) (ty : TypeId) :
    ∃ v' w', (Builtin.append_ #[53, 53] ty #[v, .slice A l.length c]).run Tryd.prog w = .ok v' w' ∧ w'.ownsRow base 57 5 v' (n + l.length) (xs ++ ocells l) ∧ w.grownBy w' v.ownBlock := by
  obtain ⟨i, hi, hz⟩ := Option.map_eq_some_iff.1 opInfo
  simp only [Prod.mk.injEq] at hz
  obtain ⟨z1, z2, z3⟩ := hz
  have hmax : n + l.length ≤ maxLen := by unfold maxLen; omega
  cases A with
  | some ad =>
    obtain ⟨v', w', a, b, d, _⟩ := run_append_own_at (P := Tryd.prog) w base 53 ty 57 i _ 5 40 Tryd.underlying53 hi z1 z2 z3 rfl (by omega) v n xs hown ad l.length c (ocells l) (ocells_len l) (fun j u hu => by
      obtain ⟨ad', e, hc⟩ := hsrc (by have := (List.getElem?_eq_some_iff.1 hu).1; rw [ocells_len] at this; omega)
      cases e
      exact hc j u hu) (ocells_one l) hmax (by omega) hbase
    exact ⟨v', w', a, b, d⟩
  | none =>
    have hm : l = [] := by
      cases l with
      | nil => rfl
      | cons x l => obtain ⟨_, e, _⟩ := hsrc (by simp); cases e
    subst hm
    refine ⟨v, w, ?_, by simpa [ocells] using hown, ⟨rfl, rfl, rfl, Nat.le_refl _, fun _ _ _ => rfl⟩⟩
    rcases hown.2 with ⟨rfl, rfl⟩ | ⟨g, cap, cur, rfl, _, _, hnc, _⟩
    · simp [Builtin.append_, run_underlying (P := Tryd.prog) Tryd.underlying53, sizeOf, typeInfo, hi, Builtin.lenOf, Builtin.firstCells]
    · simp [Builtin.append_, run_underlying (P := Tryd.prog) Tryd.underlying53, sizeOf, typeInfo, hi, Builtin.lenOf, Builtin.firstCells, hnc, storeCells]
end Cd

set_option maxHeartbeats 1500000 in
set_option maxRecDepth 20000 in
theorem rCopy10 (l : List Cd.Fm) (hlen : ∀ m ∈ l, m.f.ops.length ≤ 100000) (hn : l.length ≤ 100000) (A : Option Addr) (c : Nat) (w : World) (hP : Cd.Prog w w.heap.size A l) :
    Calls Tryd.prog 16 #[.agg #[.slice A l.length c]] w fun e w' => ∃ (ms : List Cd.Fm) (A' : Option Addr) (c' : Nat), e = .returned (.agg #[.slice A' ms.length c']) ∧ Cd.fns ms = Cd.fns l ∧ Cd.Rows w' w.heap.size A' c' ms ∧ Below w.heap.size w w' := by
  obtain ⟨W0, hW0⟩ : ∃ W0, W0 = w.alloc (.cells #[.slice A l.length c] 24) := ⟨_, rfl⟩
  obtain ⟨W1, hW1⟩ : ∃ W1, W1 = W0.alloc (.cells #[.slice none 0 0] 24) := ⟨_, rfl⟩
  obtain ⟨V, hV⟩ : ∃ V, V = W1.alloc (.cells #[.slice none 0 0] 24) := ⟨_, rfl⟩
  have hs0 : W0.heap.size = w.heap.size + 1 := by rw [hW0]; simp
  have hs1 : W1.heap.size = w.heap.size + 2 := by rw [hW1]; simp [hs0]
  have hs2 : V.heap.size = w.heap.size + 3 := by rw [hV]; simp [hs1]
  have hb0 : Below w.heap.size w W0 := by rw [hW0]; exact Cd.fn1 _ _ _
  have hb1 : Below W0.heap.size W0 W1 := by rw [hW1]; exact Cd.fn1 _ _ _
  have hb2 : Below W1.heap.size W1 V := by rw [hV]; exact Cd.fn1 _ _ _
  have hX : V.heap[w.heap.size]? = some (.cells #[.slice A l.length c] 24 (0, 0)) := by rw [hb2.block _ (by omega), hb1.block _ (by omega), hW0]; exact heap_alloc_new w _
  have hZ : V.heap[w.heap.size + 1]? = some (.cells #[.slice none 0 0] 24 (0, 0)) := by rw [hb2.block _ (by omega), ← hs0, hW1]; exact heap_alloc_new W0 _
  have hC : Cd.PBlk V (w.heap.size + 2) (.slice none 0 0) := by show V.heap[w.heap.size + 2]? = _; rw [← hs1, hV]; exact heap_alloc_new W1 _
  have HB : Hid (Below w.heap.size w V) := hb0.trans ((hb1.trans (hb2.mono hb1.size)).mono hb0.size)
  have HZ := Lib.hid hZ
  have HC := Lib.hid hC
  have HI := Lib.hid Cd.pgSize
  have HP := Lib.hid hP
  have HLEN := Lib.hid hlen
  have c0 : V.cell? ⟨w.heap.size, 0, none⟩ = some (.slice A l.length c) := cell_of_row _ _ 0 _ _ _ hX
  have HX := Lib.hid hX
  clear hb0 hb1 hb2 hX hZ hC hP hlen
  go_enter Tryd.func16, Tryd.ntmps16
  go_upto_region 2 with fail
  rw [← hW0, ← hs0, ← hW1, hs0]
  rw [show w.heap.size + 1 + 1 = W1.heap.size by omega, ← hV, hs1]
  clear hV hW1 hW0 hs0 hs1
  obtain ⟨Z, hZe⟩ : ∃ Z, Z = w.heap.size + 1 := ⟨_, rfl⟩
  obtain ⟨C, hCe⟩ : ∃ C, C = w.heap.size + 2 := ⟨_, rfl⟩
  rw [← hCe] at HC ⊢
  rw [← hZe] at HZ ⊢
  have HNE : Hid (Z = w.heap.size + 1 ∧ C = w.heap.size + 2 ∧ V.heap.size = w.heap.size + 3) := ⟨hZe, hCe, hs2⟩
  clear hZe hCe hs2
  go_wp2_with fail
  go_loopw [4] (fun s4 wr => ∃ (k : Nat) (ms : List Cd.Fm) (A2 : Option Addr) (c2 : Nat), k ≤ l.length ∧ s4 = .int .i64 k ∧ Hid (Cd.fns ms = Cd.fns (l.take k) ∧ ms.length = k) ∧ Hid (Cd.PBlk wr C (.slice A2 k c2) ∧ wr.heap[Z]? = some (.cells #[.slice none 0 0] 24 (0, 0)) ∧ Below w.heap.size w wr ∧ V.heap.size ≤ wr.heap.size ∧ wr.heap[w.heap.size]? = some (.cells #[.slice A l.length c] 24 (0, 0))) ∧ Hid (wr.ownsRow V.heap.size 55 3 (.slice A2 k c2) k (Cd.mcells ms)) ∧ Hid (∀ m ∈ ms, wr.ownsRow V.heap.size 57 5 (.slice m.A m.f.ops.length m.c) m.f.ops.length (Cd.ocells m.f.ops))) (fun s4 _ => l.length - (intOf s4).toNat)
  case atStart => exact ⟨0, [], none, 0, Nat.zero_le _, rfl, ⟨rfl, rfl⟩, ⟨HC.out, HZ.out, HB.out, Nat.le_refl _, HX.out⟩, ⟨rfl, .inl ⟨rfl, rfl⟩⟩, (show Hid _ from fun m hm => by simp at hm)⟩
  case round =>
    clear HC HZ HB HX c0
    obtain ⟨k, ms, A0, cc, hk, rfl, HMS, HS, HR, HO⟩ := hrel
    have c0 : wr.cell? ⟨w.heap.size, 0, none⟩ = some (.slice A l.length c) := cell_of_row _ _ 0 _ _ _ HS.out.2.2.2.2
    by_cases hlt : k < l.length
    · have hPB := HP.out.below HS.out.2.2.1
      obtain ⟨ad, rfl, hadb, d0, d1, d2⟩ := Cd.fn_at hPB.fs hlt
      have k0 : (0 : Int) ≤ (k : Int) := by omega
      have k1 : (k : Int) < l.length := by omega
      have hk100 : k ≤ 100000 := by omega
      have hme := List.getElem_mem hlt
      have HT : Hid (Cd.fns (l.take (k + 1)) = Cd.fns (l.take k) ++ [l[k].f]) := by
        show _ = _
        rw [List.take_succ_eq_append_getElem hlt]
        unfold Cd.fns
        rw [List.map_append]
        rfl
      have HLI := Lib.hid ((hPB.os _ hme).mono HS.out.2.2.1.size)
      have HL1 := Lib.hid (HLEN.out _ hme)
      generalize l[k] = m at d0 d1 d2 HT HLI HL1
      clear hadb hlt hPB hme
      obtain ⟨F, hF⟩ : ∃ F, F = wr.heap.size := ⟨_, rfl⟩
      obtain ⟨W, hW⟩ : ∃ W, W = wr.alloc (.cells #[.int .i64 m.f.args, .int .i64 m.f.regs, .slice m.A m.f.ops.length m.c] 55) := ⟨_, rfl⟩
      have hbW : Below wr.heap.size wr W := by rw [hW]; exact Cd.fn1 _ _ _
      have hFW : Cd.FB W F m.f.args m.f.regs (.slice m.A m.f.ops.length m.c) := by show W.heap[F]? = _; rw [hW, hF]; exact heap_alloc_new wr _
      have HFW := Lib.hid hFW
      have HBW := Lib.hid hbW
      have HFE : Hid (F = wr.heap.size) := hF
      have cF := hFW.c2
      have hFlt := hFW.lt
      have HOWN : Hid ((W.alloc (.cells #[] 57)).ownsRow W.heap.size 57 5 (.slice (some ⟨W.heap.size, 0, none⟩) 0 0) 0 []) := ⟨rfl, .inr ⟨W.heap.size, 0, #[], rfl, Nat.le_refl _, heap_alloc_new W _, Nat.le_refl _, Nat.zero_le _, rfl, rfl⟩⟩
      have HBW0 : Hid (Below W.heap.size W (W.alloc (.cells #[] 57))) := Cd.fn1 _ _ _
      obtain ⟨v2, w2, hrun, hrow2', hgr2⟩ := Cd.append_ops (W.alloc (.cells #[] 57)) W.heap.size _ 0 [] HOWN.out m.A m.f.ops m.c (fun h0 => by
        obtain ⟨ad', e, _, hc⟩ := (HLI.out.below hbW) (by rw [Cd.ocells_len]; omega)
        refine ⟨ad', e, fun j u hu => ?_⟩
        have hh := ((HLI.out.below hbW).mono hbW.size).below HBW0.out
        obtain ⟨ad2, e2, _, hc2⟩ := hh (by rw [Cd.ocells_len]; omega)
        rw [e] at e2
        cases e2
        exact hc2 j u hu) (by have := HL1.out; omega) HBW0.out.size 53
      have hrow2 : w2.ownsRow W.heap.size 57 5 v2 m.f.ops.length (Cd.ocells m.f.ops) := by simpa using hrow2'
      obtain ⟨A2, c2, rfl⟩ := Cd.rowForm hrow2
      have hb2 : Below W.heap.size W w2 := HBW0.out.grown hgr2 HBW0.out.size (fun k hk => by cases hk; exact Nat.le_refl _)
      have HRUN := Lib.hid hrun
      have cFa : (W.alloc (.cells #[] 57)).cell? ⟨F, 2, none⟩ = some (.slice m.A m.f.ops.length m.c) := (HFW.out.of_block (HBW0.out.block F HFW.out.lt)).c2
      clear hFW hbW hrun hrow2' hgr2
      go_upto_region 6 with fail
      rw [← hW, ← hF]
      clear hW hF d0 d1 d2
      have hF2 : Cd.FB w2 F m.f.args m.f.regs (.slice m.A m.f.ops.length m.c) := HFW.out.of_block (hb2.block F HFW.out.lt)
      have cF2 := hF2.c2
      have fF2 := hF2.f 2
      have hF3 := hF2.set2 (.slice A2 m.f.ops.length c2)
      have HF3 := Lib.hid hF3
      have HR2 := Lib.hid hrow2
      have HB2 := Lib.hid hb2
      have hwS : V.heap.size ≤ F := by have := HFE.out; have := HS.out.2.2.2.1; omega
      have hCw := HS.out.1.lt
      have hC2 : Cd.PBlk w2 C (.slice A0 k cc) := HS.out.1.of_block ((hb2.block C (Nat.lt_of_lt_of_le hCw HBW.out.size)).trans (HBW.out.block C hCw))
      have hC3 : Cd.PBlk (w2.setCell ⟨F, 2, none⟩ (.slice A2 m.f.ops.length c2)) C (.slice A0 k cc) := hC2.of_block (Below.heap_setCell _ _ _ _ (by have := HNE.out; intro e; try dsimp only at e; omega))
      have x0 := hC3.c0
      have e0 : (w2.setCell ⟨F, 2, none⟩ (.slice A2 m.f.ops.length c2)).cell? ⟨F, 0, none⟩ = some (.int .i64 m.f.args) := cell_of_row _ _ 0 _ _ _ hF3
      have e1 : (w2.setCell ⟨F, 2, none⟩ (.slice A2 m.f.ops.length c2)).cell? ⟨F, 1, none⟩ = some (.int .i64 m.f.regs) := cell_of_row _ _ 1 _ _ _ hF3
      have e2 : (w2.setCell ⟨F, 2, none⟩ (.slice A2 m.f.ops.length c2)).cell? ⟨F, 2, none⟩ = some (.slice A2 m.f.ops.length c2) := cell_of_row _ _ 2 _ _ _ hF3
      have HC3 := Lib.hid hC3
      obtain ⟨U, hU⟩ : ∃ U, U = (w2.setCell ⟨F, 2, none⟩ (.slice A2 m.f.ops.length c2)) := ⟨_, rfl⟩
      clear hrow2 hb2 hF2 hF3 hC2 hC3 hCw
      go_upto_region 7 with (at_builtin; refine Lib.wpList_append_run _ rfl (.tmp 18) (.tmp 20) 53 53 rfl _ _ rfl rfl _ _ HRUN.out ?_)
      rw [← hU]
      rw [← hU] at x0 e0 e1 e2 HC3 HF3
      have hUw : ∀ i, i ≠ F → i < wr.heap.size → U.heap[i]? = wr.heap[i]? := fun i hi hlt => by
        rw [hU]
        exact (Below.heap_setCell _ _ _ _ (by intro e; try dsimp only at e; omega)).trans ((HB2.out.block i (Nat.lt_of_lt_of_le hlt HBW.out.size)).trans (HBW.out.block i hlt))
      have hUs : wr.heap.size ≤ U.heap.size := by rw [hU]; have h1 := HB2.out.size; have h2 := HBW.out.size; simp [World.setCell]; omega
      have HUW := Lib.hid hUw
      have HUS : Hid (wr.heap.size ≤ U.heap.size ∧ V.heap.size ≤ U.heap.size) := ⟨hUs, by have := HS.out.2.2.2.1; omega⟩
      have HRU : Hid (U.ownsRow V.heap.size 55 3 (.slice A0 k cc) k (Cd.mcells ms)) := Cd.rowKeep HR.out (fun p hp => hUw p (by have := (HR.out.lt p hp).2; have := HFE.out; omega) (HR.out.lt p hp).2)
      have HOU : Hid (∀ m' ∈ ms ++ [(⟨m.f, A2, c2⟩ : Cd.Fm)], U.ownsRow V.heap.size 57 5 (.slice m'.A m'.f.ops.length m'.c) m'.f.ops.length (Cd.ocells m'.f.ops)) := fun m' hm' => by
        rcases List.mem_append.1 hm' with h | h
        · exact Cd.rowKeep (HO.out m' h) (fun p hp => hUw p (by have := ((HO.out m' h).lt p hp).2; have := HFE.out; omega) ((HO.out m' h).lt p hp).2)
        · rw [List.mem_singleton.1 h]
          refine Cd.rowKeep (Cd.rowBase HR2.out (by have := HBW.out.size; have := HS.out.2.2.2.1; omega)) (fun p hp => ?_)
          rw [hU]
          exact Below.heap_setCell _ _ _ _ (by have h1 := (HR2.out.lt p hp).1; have := HFW.out.lt; intro e; try dsimp only at e; omega)
      have HBU : Hid (Below w.heap.size w U) := by
        show Below _ _ _
        rw [hU]
        have h1 := HS.out.2.2.1.trans ((HBW.out.trans (HB2.out.mono HBW.out.size)).mono HS.out.2.2.1.size)
        exact Cd.setCell_below h1 (by have h3 := h1.size; exact h3) (by have := HNE.out; omega)
      have HZU : Hid (U.heap[Z]? = some (.cells #[.slice none 0 0] 24 (0, 0))) := (hUw Z (by have := Cd.ltH HS.out.2.1; have := HFE.out; omega) (Cd.ltH HS.out.2.1)).trans HS.out.2.1
      have HXU : Hid (U.heap[w.heap.size]? = some (.cells #[.slice (some ad) l.length c] 24 (0, 0))) := (hUw w.heap.size (by have := Cd.ltH HS.out.2.2.2.2; have := HFE.out; omega) (Cd.ltH HS.out.2.2.2.2)).trans HS.out.2.2.2.2
      clear hUw hUs hU HB2 HR2 HBW HFW
      go_wp2_with (refine Cd.at_app rfl ?_; refine Cd.fpush HRU.out rfl _ _ rfl rfl rfl (⟨m.f, A2, c2⟩ : Cd.Fm) (by first | with_reducible rfl | rfl) hk100 HUS.out.2 ?_; intro g cap w4 hown hgr; have hCA : Cd.PBlk (U.alloc (.cells #[.int .i64 m.f.args, .int .i64 m.f.regs, .slice A2 m.f.ops.length c2] 55)) C (.slice A0 k cc) := HC3.out.of_block ((Cd.fn1 U _ _).block C HC3.out.lt); have hC4 := hCA.of_block (hgr.block C hCA.lt (fun e => by have h1 := (HRU.out.lt C e.symm).1; have := HNE.out; omega)); have x4 := hC4.c0; have y4 := hC4.f 0)
      have HC5 : Hid (Cd.PBlk (w4.setCell ⟨C, 0, none⟩ (.slice (some ⟨g, 0, none⟩) (k + 1) cap)) C (.slice (some ⟨g, 0, none⟩) (k + 1) cap)) := hC4.set0 _
      have hbA : Below U.heap.size U (U.alloc (.cells #[.int .i64 m.f.args, .int .i64 m.f.regs, .slice A2 m.f.ops.length c2] 55)) := Cd.fn1 _ _ _
      have keepU : ∀ i, i < U.heap.size → i ≠ C → some i ≠ (Value.slice A0 k cc).ownBlock → (w4.setCell ⟨C, 0, none⟩ (.slice (some ⟨g, 0, none⟩) (k + 1) cap)).heap[i]? = U.heap[i]? := fun i hi hne hr => by
        exact (Below.heap_setCell _ _ _ _ (by intro e; try dsimp only at e; omega)).trans ((hgr.block i (Nat.lt_of_lt_of_le hi hbA.size) hr).trans (hbA.block i hi))
      have HST5 : Hid ((w4.setCell ⟨C, 0, none⟩ (.slice (some ⟨g, 0, none⟩) (k + 1) cap)).heap[Z]? = some (.cells #[.slice none 0 0] 24 (0, 0)) ∧ Below w.heap.size w (w4.setCell ⟨C, 0, none⟩ (.slice (some ⟨g, 0, none⟩) (k + 1) cap)) ∧ V.heap.size ≤ (w4.setCell ⟨C, 0, none⟩ (.slice (some ⟨g, 0, none⟩) (k + 1) cap)).heap.size ∧ (w4.setCell ⟨C, 0, none⟩ (.slice (some ⟨g, 0, none⟩) (k + 1) cap)).heap[w.heap.size]? = some (.cells #[.slice (some ad) l.length c] 24 (0, 0))) := by
        refine ⟨(keepU Z (Cd.ltH HZU.out) (by have := HNE.out; omega) (fun e => by have h1 := (HRU.out.lt Z e.symm).1; have := HNE.out; omega)).trans HZU.out, ?_, ?_, (keepU w.heap.size (Cd.ltH HXU.out) (by have := HNE.out; omega) (fun e => by have h1 := (HRU.out.lt w.heap.size e.symm).1; have := HNE.out; omega)).trans HXU.out⟩
        · have h1 : Below w.heap.size w w4 := (HBU.out.trans (hbA.mono HBU.out.size)).grown hgr (by have h2 := HBU.out.size; have h3 := hbA.size; omega) (fun q hq => by have h2 := (HRU.out.lt q hq).1; have := HNE.out; omega)
          exact Cd.setCell_below h1 h1.size (by have := HNE.out; omega)
        · have h1 := hbA.size
          have h2 : (U.alloc (.cells #[.int .i64 m.f.args, .int .i64 m.f.regs, .slice A2 m.f.ops.length c2] 55)).heap.size ≤ w4.heap.size := hgr.size
          have h3 := HUS.out.2
          simp [World.setCell]
          omega
      have HR5 : Hid ((w4.setCell ⟨C, 0, none⟩ (.slice (some ⟨g, 0, none⟩) (k + 1) cap)).ownsRow V.heap.size 55 3 (.slice (some ⟨g, 0, none⟩) (k + 1) cap) (k + 1) (Cd.mcells (ms ++ [(⟨m.f, A2, c2⟩ : Cd.Fm)]))) := by
        show World.ownsRow _ _ _ _ _ _ _
        rw [Cd.mcells_snoc]
        exact Cd.rowKeep hown (fun p hp => Below.heap_setCell _ _ _ _ (by intro e; have h1 := (hown.lt p hp).1; have := HNE.out; try dsimp only at e; omega))
      have HO5 : Hid (∀ m' ∈ ms ++ [(⟨m.f, A2, c2⟩ : Cd.Fm)], (w4.setCell ⟨C, 0, none⟩ (.slice (some ⟨g, 0, none⟩) (k + 1) cap)).ownsRow V.heap.size 57 5 (.slice m'.A m'.f.ops.length m'.c) m'.f.ops.length (Cd.ocells m'.f.ops)) := fun m' hm' => by
        have h := HOU.out m' hm'
        exact Cd.rowKeep h (fun p hp => keepU p (h.lt p hp).2 (by have h1 := (h.lt p hp).1; have := HNE.out; omega) (fun e => Cd.rowNe h HRU.out (by decide) p hp e.symm))
      have HM5 : Hid (Cd.fns (ms ++ [(⟨m.f, A2, c2⟩ : Cd.Fm)]) = Cd.fns (l.take (k + 1)) ∧ (ms ++ [(⟨m.f, A2, c2⟩ : Cd.Fm)]).length = k + 1) := by
        refine ⟨?_, by rw [List.length_append, HMS.out.2]; rfl⟩
        rw [HT.out, ← HMS.out.1]
        unfold Cd.fns
        rw [List.map_append]
        rfl
      clear hC4 hCA hbA keepU hown hgr x4 y4 x0 e0 e1 e2 HRU HOU HBU HZU HXU
      go_wp2_with fail
      go_roundw
      case rel => exact ⟨k + 1, ms ++ [(⟨m.f, A2, c2⟩ : Cd.Fm)], some ⟨g, 0, none⟩, cap, by omega, by go_num, HM5.out, ⟨HC5.out, HST5.out⟩, HR5.out, HO5.out⟩
      case measure => simp [intOf]; omega
    · obtain rfl : k = l.length := by omega
      have k1 : ¬ ((l.length : Int) < l.length) := by omega
      have hml : ms.length = l.length := HMS.out.2
      clear hlt
      go_wp2_with (first
        | refine wpList_load_row rfl 24 (.tmp 3) rfl C rfl 24 #[.slice A0 l.length cc] (0, 0) _ HS.out.1 Tryd.underlying24 rfl HI.out ?_
        | refine wpList_store_row rfl 24 (.tmp 2) (.tmp 29) rfl Z #[.slice A0 l.length cc] rfl rfl 24 _ HS.out.2.1 HI.out rfl (by simp [Value.oneCell']) ?_)
      try simp only [Exit.inBlock, Exit.then]
      refine bodyPost_ret (v := .agg #[.slice A0 l.length cc]) (results_cell_row Tryd.results16 _ _ Z 24 #[.slice A0 l.length cc] (0, 0) _ rfl (setRow_heap _ _ _ _ _ _ HS.out.2.1) Tryd.underlying24 rfl HI.out) rfl ⟨ms, A0, cc, ?_, ?_, ?_, ?_⟩
      · rw [hml]
      · rw [HMS.out.1, List.take_of_length_le (Nat.le_refl _)]
      · have hrs : Cd.Rows _ V.heap.size A0 cc ms := ⟨by rw [hml]; exact HR.out, HO.out⟩
        exact (hrs.keep (fun i h1 h2 => setRow_other _ Z i _ (by have := HNE.out; omega))).base (by have := HNE.out; omega)
      · exact Cd.row_below HS.out.2.2.1 (by have := HNE.out; omega) _
end Go.Proofs.YtnlhacgihmelhaaDoor
end
