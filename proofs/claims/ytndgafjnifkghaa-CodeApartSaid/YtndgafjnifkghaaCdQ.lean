/-
  The contract of code.readProgram: a program is read.
-/
import Derived.Test.YtndgafjnifkghaaCdP
namespace Go.Proofs.Ytndgafjnifkghaa
open Go.RowKit

namespace Cd
theorem pgSize : (Try.prog.info? 24).map (·.size) = some 1 := by kernel_rfl
theorem fnInfo : (Try.prog.info? 41).map (fun i => (i.zero, i.size, i.bytes)) = some (some (.agg #[.int .i64 0, .int .i64 0, .slice none 0 0]), 3, 40) := by kernel_rfl
/-- append(funcs, f), at a step of a region that draws. -/
theorem fpush_step {ops : Array Oper} {oo : Oper} {a : Act} {w : World} {K : Act → World → Prop} {Q : Exit → Act → World → Prop} {E : Prop} {T1 : TypeId} {base n b : Nat} {v : Value} {xs : List Value}
    (hrow : w.ownsRow base 41 3 v n xs) (hgd : oo.guard = none) (s x : Operand)
    (hop : oo.op = .call { callee := .builtin .append, args := #[s, x], argTypes := #[22, 22] }) (hs : a.eval s = v) (hx : a.eval x = .slice (some ⟨b, 0, none⟩) 1 1) (m : Fm) (hb : w.heap.size = b) (hn : n ≤ 100000) (hbase : base ≤ w.heap.size)
    (h : ∀ g cap w', w'.ownsRow base 41 3 (.slice (some ⟨g, 0, none⟩) (n + 1) cap) (n + 1) (xs ++ m.cells) → (w.alloc (.cells #[.int .i64 m.f.args, .int .i64 m.f.regs, .slice m.A m.f.ops.length m.c] T1)).grownBy w' v.ownBlock → K (a.put oo.dst (.slice (some ⟨g, 0, none⟩) (n + 1) cap)) w') :
    if Region.wanted oo (yielded ops a.tmps) = true then Oper.wp Try.prog oo a (w.alloc (.cells #[.int .i64 m.f.args, .int .i64 m.f.regs, .slice m.A m.f.ops.length m.c] T1)) K Q else E := by
  obtain ⟨i, hi, hz⟩ := Option.map_eq_some_iff.1 fnInfo
  simp only [Prod.mk.injEq] at hz
  obtain ⟨z1, z2, z3⟩ := hz
  subst hb
  refine step_append_lies _ hgd s x 22 hop base 41 i (.agg #[.int .i64 0, .int .i64 0, .slice none 0 0]) 3 40 Try.underlying22 hi z1 z2 z3 rfl (by decide) v n xs hs (hrow.alloc _) ⟨w.heap.size, 0, none⟩ 1 1 m.cells hx rfl
    (fun j u hu => World.news_of_block (heap_alloc_new w (.cells #[.int .i64 m.f.args, .int .i64 m.f.regs, .slice m.A m.f.ops.length m.c] T1)) j u hu) (by unfold Fm.cells; simp [Value.oneCell']) (by decide) (by unfold maxLen; omega) (by omega) (by simp; omega) (w.heap.size + 1) (by simp) ?_
  intro g cap w' h1 h2 _ _
  exact h g cap w' h1 h2
/-- Rows of unlike types are unlike blocks. -/
theorem rowNe {w : World} {b1 b2 n1 n2 m1 m2 : Nat} {T1 T2 : TypeId} {v1 v2 : Value} {x1 x2 : List Value} (h1 : w.ownsRow b1 T1 m1 v1 n1 x1) (h2 : w.ownsRow b2 T2 m2 v2 n2 x2) (hT : T1 ≠ T2) : ∀ k, v1.ownBlock = some k → v2.ownBlock ≠ some k := by
  intro k hk hk2
  rcases h1.2 with ⟨rfl, _⟩ | ⟨g, cap, cur, rfl, _, hg, _⟩
  · simp [Value.ownBlock] at hk
  · rcases h2.2 with ⟨rfl, _⟩ | ⟨g2, cap2, cur2, rfl, _, hg2, _⟩
    · simp [Value.ownBlock] at hk2
    · simp only [Value.ownBlock, Option.some.injEq] at hk hk2
      subst hk
      subst hk2
      rw [hg] at hg2
      simp only [Option.some.injEq, Obj.cells.injEq] at hg2
      exact hT hg2.2.1
/-- Functions are read, so many. -/
def rFns : Nat → ByteArray → Nat → List FnV × ByteArray × Nat
  | 0, s, f => ([], s, f)
  | n + 1, s, f => ((rFns n s f).1 ++ [(rFn (rFns n s f).2.1 (rFns n s f).2.2).1], (rFn (rFns n s f).2.1 (rFns n s f).2.2).2)
theorem rFns_len (n : Nat) (s : ByteArray) (f : Nat) : (rFns n s f).1.length = n := by
  induction n with
  | zero => rfl
  | succ n ih => unfold rFns; simp [ih]
theorem rFns_size (n : Nat) (s : ByteArray) (f : Nat) : (rFns n s f).2.1.size ≤ s.size := by
  induction n with
  | zero => exact Nat.le_refl _
  | succ n ih => exact Nat.le_trans (rFn_size _ _) ih
/-- A program is read, behind its version. -/
def rProg (s : ByteArray) (f : Nat) : List FnV × ByteArray × Nat := rFns (rC 16 s f).1 (rC 16 s f).2.1 (rC 16 s f).2.2
theorem rProg_size (s : ByteArray) (f : Nat) : (rProg s f).2.1.size ≤ s.size := Nat.le_trans (rFns_size _ _ _) (Wire.step_size s f)
/-- A program's block. -/
def PBlk (w : World) (F : Nat) (v : Value) : Prop := w.heap[F]? = some (.cells #[v] 24 (0, 0))
section
variable {w w' : World} {F : Nat} {v : Value}
theorem PBlk.lt (h : PBlk w F v) : F < w.heap.size := ltH h
theorem PBlk.c0 (h : PBlk w F v) : w.cell? ⟨F, 0, none⟩ = some v := cell_of_row _ _ 0 _ _ _ h
theorem PBlk.f (h : PBlk w F v) (i : Nat) : w.frozen? ⟨F, i, none⟩ = false := Lib.frozen_of_heap h i
theorem PBlk.of_block (h : PBlk w F v) (hb : w'.heap[F]? = w.heap[F]?) : PBlk w' F v := hb.trans h
theorem PBlk.set0 (h : PBlk w F v) (u : Value) : PBlk (w.setCell ⟨F, 0, none⟩ u) F u := by
  unfold PBlk at h ⊢
  simp [World.setCell, Array.getElem?_modify, h]
end
end Cd

set_option maxHeartbeats 1500000 in
set_option maxRecDepth 20000 in
theorem creadProgram (B R : Nat) (hBR : B ≠ R) (s : ByteArray) (f : Nat) (w : World) (h : Wire.RD R s f w) (hs : s.size ≤ maxLen) (hm : Cd.Tbl w B) :
    Calls Try.prog 31 #[.map (some B), .pointer (some ⟨R, 0, none⟩)] w fun e w' => ∃ (ms : List Cd.Fm) (A : Option Addr) (c : Nat), e = .returned (.agg #[.slice A ms.length c]) ∧
      Cd.fns ms = (Cd.rProg s f).1 ∧ w'.ownsRow w.heap.size 41 3 (.slice A ms.length c) ms.length (Cd.mcells ms) ∧ (∀ m ∈ ms, w'.ownsRow w.heap.size 43 5 (.slice m.A m.f.ops.length m.c) m.f.ops.length (Cd.ocells m.f.ops)) ∧ Wire.After R (Cd.rProg s f).2.1 (Cd.rProg s f).2.2 w w' := by
  obtain ⟨W0, hW0⟩ : ∃ W0, W0 = w.alloc (.cells #[.slice none 0 0] 24) := ⟨_, rfl⟩
  obtain ⟨V, hV⟩ : ∃ V, V = W0.alloc (.cells #[.slice none 0 0] 24) := ⟨_, rfl⟩
  have hs0 : W0.heap.size = w.heap.size + 1 := by rw [hW0]; simp
  have hb0 : Below w.heap.size w W0 := by rw [hW0]; exact Cd.fn1 _ _ _
  have hb1 : Below W0.heap.size W0 V := by rw [hV]; exact Cd.fn1 _ _ _
  have hb : Below w.heap.size w V := hb0.trans (hb1.mono hb0.size)
  have hZ : V.heap[w.heap.size]? = some (.cells #[.slice none 0 0] 24 (0, 0)) := by rw [hb1.block _ (by rw [hs0]; omega), hW0]; exact heap_alloc_new w _
  have hPB : Cd.PBlk V (w.heap.size + 1) (.slice none 0 0) := by show V.heap[w.heap.size + 1]? = _; rw [← hs0, hV]; exact heap_alloc_new W0 _
  have HRD := Lib.hid (h.below hb)
  have HG : Hid (w.grownBy V (some R)) := grown_of hb _
  have HM := Lib.hid hm
  have HRL := Lib.hid h.lt
  have HZ := Lib.hid hZ
  have HFV := Lib.hid hPB
  have HI := Lib.hid Cd.pgSize
  have HMX : Hid (∀ t : ByteArray, t.size ≤ s.size → t.size ≤ maxLen) := fun t ht => Nat.le_trans ht hs
  obtain ⟨q, hq⟩ : ∃ q, q = Cd.rC 16 s f := ⟨_, rfl⟩
  have HFN : Hid (Cd.rProg s f = Cd.rFns q.1 q.2.1 q.2.2) := by show _ = _; rw [hq]; rfl
  have HSQ : Hid (q.2.1.size ≤ s.size) := by show _ ≤ _; rw [hq]; exact Wire.step_size _ _
  have hql : q.1 ≤ 16 := by rw [hq]; exact Cd.rC_le 16 _ _
  have HQ2 : Hid (Calls Try.prog 56 #[.pointer (some ⟨R, 0, none⟩), .int .i64 16] V fun e w' => e = .returned (.int .i64 (q.1 : Int)) ∧ Wire.After R q.2.1 q.2.2 V w') := by show Calls _ _ _ _ _; rw [hq]; exact rCount_any 16 (by omega) (by omega) R _ _ V HRD.out hs
  have HNE : Hid (R < w.heap.size ∧ w.heap.size + 1 < V.heap.size) := ⟨h.lt, hPB.lt⟩
  clear hZ hPB hb hb0 hb1 h hm hs hq
  obtain ⟨qv, qs, qf⟩ := q
  simp only at HFN hql HQ2 HSQ
  go_enter Try.func31, Try.ntmps31
  go_upto_region 2 with fail
  rw [← hW0, ← hs0, ← hV]
  rw [← hs0] at HFV HNE
  clear hV hW0
  obtain ⟨Z, hZe⟩ : ∃ Z, Z = w.heap.size := ⟨_, rfl⟩
  obtain ⟨F, hFe⟩ : ∃ F, F = W0.heap.size := ⟨_, rfl⟩
  rw [← hFe] at HFV HNE hs0 ⊢
  rw [← hZe] at HZ ⊢
  have HZE : Hid (Z = w.heap.size ∧ F = w.heap.size + 1) := ⟨hZe, hs0⟩
  clear hZe hFe hs0
  go_wp2_with fail
  refine HQ2.out.mono ?_
  rintro e w4 ⟨rfl, hA4⟩
  have HST : Hid (Cd.PBlk w4 F (.slice none 0 0) ∧ Wire.RD R qs qf w4 ∧ w4.heap[Z]? = some (.cells #[.slice none 0 0] 24 (0, 0)) ∧ w.grownBy w4 (some R) ∧ V.heap.size ≤ w4.heap.size) :=
    ⟨HFV.out.of_block (hA4.2.block F HFV.out.lt (fun e => by have := Option.some.inj e; have := HNE.out; have := HZE.out; omega)), hA4.1, (hA4.2.block Z (Cd.ltH HZ.out) (fun e => by have := Option.some.inj e; have := HNE.out; have := HZE.out; omega)).trans HZ.out, Wire.grown_trans HG.out hA4.2, hA4.2.size⟩
  clear hA4 HQ2 HRD HG HZ HFV
  go_wp2_with fail
  go_loopw [8] (fun s8 wr => ∃ (j : Nat) (ms : List Cd.Fm) (A : Option Addr) (c : Nat), j ≤ qv ∧ s8 = .int .i64 j ∧ Hid (Cd.fns ms = (Cd.rFns j qs qf).1 ∧ ms.length = j) ∧ Hid (Cd.PBlk wr F (.slice A j c) ∧ Wire.RD R (Cd.rFns j qs qf).2.1 (Cd.rFns j qs qf).2.2 wr ∧ wr.heap[Z]? = some (.cells #[.slice none 0 0] 24 (0, 0)) ∧ w.grownBy wr (some R) ∧ V.heap.size ≤ wr.heap.size) ∧ Hid (wr.ownsRow V.heap.size 41 3 (.slice A j c) j (Cd.mcells ms)) ∧ Hid (∀ m ∈ ms, wr.ownsRow V.heap.size 43 5 (.slice m.A m.f.ops.length m.c) m.f.ops.length (Cd.ocells m.f.ops))) (fun s8 _ => qv - (intOf s8).toNat)
  case atStart => exact ⟨0, [], none, 0, Nat.zero_le _, rfl, ⟨rfl, rfl⟩, HST.out, ⟨rfl, .inl ⟨rfl, rfl⟩⟩, (show Hid _ from fun m hm => by simp at hm)⟩
  case round =>
    clear HST
    obtain ⟨j, ms, A, c, hj, rfl, HMS, HS, HR, HO⟩ := hrel
    by_cases hlt : j < qv
    · have k1 : (j : Int) < qv := by omega
      have HTB := Lib.hid (Cd.Tbl.grown HM.out HS.out.2.2.2.1 hBR)
      have hsz := HMX.out _ (Nat.le_trans (Cd.rFns_size j qs qf) HSQ.out)
      have HC0 := Lib.hid (creadFunc B R hBR (Cd.rFns j qs qf).2.1 (Cd.rFns j qs qf).2.2 wr.drew HS.out.2.1 hsz HTB.out)
      have HNX : Hid (Cd.rFns (j + 1) qs qf = ((Cd.rFns j qs qf).1 ++ [(Cd.rFn (Cd.rFns j qs qf).2.1 (Cd.rFns j qs qf).2.2).1], (Cd.rFn (Cd.rFns j qs qf).2.1 (Cd.rFns j qs qf).2.2).2)) := rfl
      generalize Cd.rFns j qs qf = x at HS HC0 HNX HMS
      generalize Cd.rFn x.2.1 x.2.2 = y at HC0 HNX
      obtain ⟨o, ys, yf⟩ := y
      have HC : Hid (Calls Try.prog 57 #[.map (some B), .pointer (some ⟨R, 0, none⟩)] wr.drew fun e w' => ∃ v, e = .returned v ∧ ∃ A2 c2, v = .agg #[.int .i64 o.args, .int .i64 o.regs, .slice A2 o.ops.length c2] ∧ w'.ownsRow wr.heap.size 43 5 (.slice A2 o.ops.length c2) o.ops.length (Cd.ocells o.ops) ∧ Wire.After R ys yf wr.drew w') :=
        HC0.out.mono fun e w' hh => by obtain ⟨A2, c2, h1, h2, h3⟩ := hh; exact ⟨_, h1, A2, c2, rfl, h2, h3⟩
      have cF := HS.out.1.c0
      have hj100 : j ≤ 100000 := by omega
      clear hsz hlt HC0 HTB
      go_upto_region 4 with fail
      go_region_law (first
        | (refine Cd.fpush_step hrow5 (by rfl) _ _ (by rfl) (by rfl) (by rfl) m (by rfl) hj100 hsz5 ?_
           intro g cap w6 hown6 hgr6
           have hF6 := hFa.of_block (hgr6.block F hFa.lt (fun e => by have h1 := (hrow5.lt F e.symm).1; have := HNE.out; omega))
           have cF6 := hF6.c0
           have fF6 := hF6.f 0)
        | (refine Cd.step_call 57 #[.map (some B), .pointer (some ⟨R, 0, none⟩)] (fun v w' => ∃ A2 c2, v = .agg #[.int .i64 o.args, .int .i64 o.regs, .slice A2 o.ops.length c2] ∧ w'.ownsRow wr.heap.size 43 5 (.slice A2 o.ops.length c2) o.ops.length (Cd.ocells o.ops) ∧ Wire.After R ys yf wr.drew w') (by rfl) (by kernel_rfl) HC.out ?_
           rintro v w5 ⟨A2, c2, rfl, hop5, hA5⟩
           have hF5 : Cd.PBlk w5 F (.slice A j c) := HS.out.1.of_block (hA5.2.block F HS.out.1.lt (fun e => by have := Option.some.inj e; have := HNE.out; have := HZE.out; omega))
           have cF5 := hF5.c0
           have hrow5 : w5.ownsRow V.heap.size 41 3 (.slice A j c) j (Cd.mcells ms) := Cd.rowKeep HR.out (fun p hp => hA5.2.block p (HR.out.lt p hp).2 (fun e => by have := Option.some.inj e; have h1 := (HR.out.lt p hp).1; have := HNE.out; have := HZE.out; omega))
           have hsz5 : V.heap.size ≤ w5.heap.size := Nat.le_trans HS.out.2.2.2.2 hA5.2.size
           obtain ⟨m, hm⟩ : ∃ m : Cd.Fm, m = ⟨o, A2, c2⟩ := ⟨_, rfl⟩
           have e0 : o = m.f := by rw [hm]
           have e1 : A2 = m.A := by rw [hm]
           have e2 : c2 = m.c := by rw [hm]
           clear hm
           subst e0 e1 e2
           have hFa : Cd.PBlk (w5.alloc (.cells #[.int .i64 m.f.args, .int .i64 m.f.regs, .slice m.A m.f.ops.length m.c] 41)) F (.slice A j c) := hF5.of_block ((Cd.fn1 w5 _ _).block F hF5.lt)
           have cFa := hFa.c0))
      all_goals
        have hsep : ∀ p, (Value.slice A j c).ownBlock = some p → V.heap.size ≤ p := fun p hp => (hrow5.lt p hp).1
        have hVw : w.heap.size ≤ V.heap.size := by have := HNE.out; have := HZE.out; omega
        obtain ⟨U, hU⟩ : ∃ U, U = w5.alloc (.cells #[.int .i64 m.f.args, .int .i64 m.f.regs, .slice m.A m.f.ops.length m.c] 41) := ⟨_, rfl⟩
        have hbU : Below w5.heap.size w5 U := by rw [hU]; exact Cd.fn1 _ _ _
        rw [← hU] at hgr6
        have hZ5 : w5.heap[Z]? = some (.cells #[.slice none 0 0] 24 (0, 0)) := (hA5.2.block Z (Cd.ltH HS.out.2.2.1) (fun e => by have := Option.some.inj e; have := HNE.out; have := HZE.out; omega)).trans HS.out.2.2.1
        have hR5 : R < w5.heap.size := hA5.1.lt
        have hRne : ∀ q, q < V.heap.size → some q ≠ (Value.slice A j c).ownBlock := fun q hq e => by have := hsep q e.symm; omega
        have HNEW : Hid (Cd.PBlk (w6.setCell ⟨F, 0, none⟩ (.slice (some ⟨g, 0, none⟩) (j + 1) cap)) F (.slice (some ⟨g, 0, none⟩) (j + 1) cap) ∧ Wire.RD R ys yf (w6.setCell ⟨F, 0, none⟩ (.slice (some ⟨g, 0, none⟩) (j + 1) cap)) ∧ (w6.setCell ⟨F, 0, none⟩ (.slice (some ⟨g, 0, none⟩) (j + 1) cap)).heap[Z]? = some (.cells #[.slice none 0 0] 24 (0, 0)) ∧ w.grownBy (w6.setCell ⟨F, 0, none⟩ (.slice (some ⟨g, 0, none⟩) (j + 1) cap)) (some R) ∧ V.heap.size ≤ (w6.setCell ⟨F, 0, none⟩ (.slice (some ⟨g, 0, none⟩) (j + 1) cap)).heap.size) := by
          refine ⟨hF6.set0 _, ?_, ?_, ?_, ?_⟩
          · exact (Below.heap_setCell _ _ _ _ (by have := HNE.out; have := HZE.out; intro e; try dsimp only at e; omega)).trans ((hgr6.block R (Nat.lt_of_lt_of_le hR5 hbU.size) (hRne R (by have := HNE.out; omega))).trans ((hbU.block R hR5).trans hA5.1))
          · exact (Below.heap_setCell _ _ _ _ (by have := HNE.out; have := HZE.out; intro e; try dsimp only at e; omega)).trans ((hgr6.block Z (Nat.lt_of_lt_of_le (Cd.ltH hZ5) hbU.size) (hRne Z (by have := HNE.out; have := HZE.out; omega))).trans ((hbU.block Z (Cd.ltH hZ5)).trans hZ5))
          · exact Cd.grown_setX (Cd.grown_row (Cd.grown_below (Wire.grown_trans (Cd.grown_drew HS.out.2.2.2.1) hA5.2) hbU) hgr6 (fun p hp => Nat.le_trans hVw (hsep p hp))) (by have := HNE.out; have := HZE.out; omega)
          · have h1 := hbU.size
            have h2 := hgr6.size
            simp [World.setCell]
            omega
        have HRN : Hid ((w6.setCell ⟨F, 0, none⟩ (.slice (some ⟨g, 0, none⟩) (j + 1) cap)).ownsRow V.heap.size 41 3 (.slice (some ⟨g, 0, none⟩) (j + 1) cap) (j + 1) (Cd.mcells (ms ++ [m]))) := by
          show World.ownsRow _ _ _ _ _ _ _
          rw [Cd.mcells_snoc]
          exact Cd.rowKeep hown6 (fun p hp => Below.heap_setCell _ _ _ _ (by intro e; have h1 := (hown6.lt p hp).1; have := HNE.out; try dsimp only at e; omega))
        have keepOp : ∀ m' : Cd.Fm, w5.ownsRow V.heap.size 43 5 (.slice m'.A m'.f.ops.length m'.c) m'.f.ops.length (Cd.ocells m'.f.ops) → (w6.setCell ⟨F, 0, none⟩ (.slice (some ⟨g, 0, none⟩) (j + 1) cap)).ownsRow V.heap.size 43 5 (.slice m'.A m'.f.ops.length m'.c) m'.f.ops.length (Cd.ocells m'.f.ops) := fun m' h => by
          refine Cd.rowKeep h (fun p hp => ?_)
          have h1 := h.lt p hp
          exact (Below.heap_setCell _ _ _ _ (by intro e; have := HNE.out; try dsimp only at e; omega)).trans ((hgr6.block p (Nat.lt_of_lt_of_le h1.2 hbU.size) (fun e => Cd.rowNe h hrow5 (by decide) p hp e.symm)).trans (hbU.block p h1.2))
        have HON : Hid (∀ m' ∈ ms ++ [m], (w6.setCell ⟨F, 0, none⟩ (.slice (some ⟨g, 0, none⟩) (j + 1) cap)).ownsRow V.heap.size 43 5 (.slice m'.A m'.f.ops.length m'.c) m'.f.ops.length (Cd.ocells m'.f.ops)) := fun m' hm' => by
          rcases List.mem_append.1 hm' with h | h
          · refine keepOp m' (Cd.rowKeep (HO.out m' h) (fun p hp => ?_))
            have h1 := (HO.out m' h).lt p hp
            exact hA5.2.block p h1.2 (fun e => by have := Option.some.inj e; have := HNE.out; omega)
          · rw [List.mem_singleton.1 h]
            exact keepOp m (Cd.rowBase hop5 HS.out.2.2.2.2)
        have HMN : Hid (Cd.fns (ms ++ [m]) = x.1 ++ [m.f] ∧ (ms ++ [m]).length = j + 1) := by
          refine ⟨?_, by rw [List.length_append, HMS.out.2]; rfl⟩
          unfold Cd.fns
          rw [List.map_append]
          have := HMS.out.1
          unfold Cd.fns at this
          rw [this]
          rfl
        clear hsep hVw hU hbU hgr6 hZ5 hR5 hRne hF6 hown6 hA5 hF5 hrow5 hFa cF6 fF6 cF5 cFa cF keepOp hop5
        go_wp2_with fail
        go_roundw
        case rel => exact ⟨j + 1, ms ++ [m], some ⟨g, 0, none⟩, cap, by omega, by go_num, by rw [HNX.out]; exact HMN.out, by rw [HNX.out]; exact HNEW.out, HRN.out, HON.out⟩
        case measure => simp [intOf]; omega
    · obtain rfl : j = qv := by omega
      have k1 : ¬ ((j : Int) < j) := by omega
      have hml : ms.length = j := HMS.out.2
      clear hlt
      go_wp2_with (first
        | refine wpList_load_row rfl 24 (.tmp 5) rfl F rfl 24 #[.slice A j c] (0, 0) _ HS.out.1 Try.underlying24 rfl HI.out ?_
        | refine wpList_store_row rfl 24 (.tmp 4) (.tmp 19) rfl Z #[.slice A j c] rfl rfl 24 _ HS.out.2.2.1 HI.out rfl (by simp [Value.oneCell']) ?_)
      try simp only [Exit.inBlock, Exit.then]
      refine bodyPost_ret (v := .agg #[.slice A j c]) (results_cell_row Try.results31 _ _ Z 24 #[.slice A j c] (0, 0) _ rfl (setRow_heap _ _ _ _ _ _ HS.out.2.2.1) Try.underlying24 rfl HI.out) rfl ⟨ms, A, c, ?_, ?_, ?_, ?_, ?_⟩
      · rw [hml]
      · rw [HFN.out]
        exact HMS.out.1
      · rw [hml]
        exact Cd.rowKeep (Cd.rowBase HR.out (by have := HNE.out; have := HZE.out; omega)) (fun p hp => setRow_other _ Z p _ (by have h1 := (HR.out.lt p hp).1; have := HNE.out; have := HZE.out; omega))
      · intro m hm
        exact Cd.rowKeep (Cd.rowBase (HO.out m hm) (by have := HNE.out; have := HZE.out; omega)) (fun p hp => setRow_other _ Z p _ (by have h1 := ((HO.out m hm).lt p hp).1; have := HNE.out; have := HZE.out; omega))
      · rw [HFN.out]
        exact ⟨(setRow_other _ Z R _ (by have := HNE.out; have := HZE.out; omega)).trans HS.out.2.1, Cd.grown_setRow HS.out.2.2.2.1 (by have := HZE.out; omega)⟩
end Go.Proofs.Ytndgafjnifkghaa
