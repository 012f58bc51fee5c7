/-
  The document's net: Double, Cut, Heal.
-/
import Derived.Test.YtfhengihdlojmaaGmF
namespace Go.Proofs.Ytfhengihdlojmaa
open Go.RowKit

namespace Gm
section
variable {R : Nat} {v vc : Value} {last : Int} {l : List Msg} {cs : List Wy} {w : World}
theorem way_info : (Try.prog.info? 71).map (fun i => (i.zero, i.size, i.bytes)) = some (some (.agg #[.int .i64 0, .int .i64 0]), 2, 16) := by kernel_rfl
theorem DNet.at2 {w' : World} (h : DNet R v vc last l cs w) (hgr : w.grownBy w' vc.ownBlock) : w'.cell? ⟨R, 2, none⟩ = some vc ∧ w'.frozen? ⟨R, 2, none⟩ = false := by
  have hR : w'.heap[R]? = some (.cells #[.int .u64 last, v, vc] 32 (0, 0)) := (hgr.block R (ltHeap h.obj) (fun e => h.nec e.symm)).trans h.obj
  exact ⟨cell_of_row _ _ 2 _ _ _ hR, frozen_of_row _ _ 2 _ _ hR⟩
/-- A way was appended. -/
theorem DNet.pushW {g cap : Nat} {m : Wy} {w' : World} (h : DNet R v vc last l cs w) (hown : w'.ownsRow 0 71 2 (.slice (some ⟨g, 0, none⟩) (cs.length + 1) cap) (cs.length + 1) (wys cs ++ [.int .i64 m.1, .int .i64 m.2])) (hgr : w.grownBy w' vc.ownBlock) (hg : vc.ownBlock = some g ∨ g = w.heap.size) :
    DNet R v (.slice (some ⟨g, 0, none⟩) (cs.length + 1) cap) last l (cs ++ [m]) (w'.setCell ⟨R, 2, none⟩ (.slice (some ⟨g, 0, none⟩) (cs.length + 1) cap)) ∧ Mvg (NOff R v vc) (NOff R v (.slice (some ⟨g, 0, none⟩) (cs.length + 1) cap)) w (w'.setCell ⟨R, 2, none⟩ (.slice (some ⟨g, 0, none⟩) (cs.length + 1) cap)) := by
  have hRl := ltHeap h.obj
  have hR : w'.heap[R]? = some (.cells #[.int .u64 last, v, vc] 32 (0, 0)) := (hgr.block R hRl (fun e => h.nec e.symm)).trans h.obj
  have hgR : g ≠ R := fun e => by
    rcases hg with hg | hg
    · exact h.nec (by rw [hg, e])
    · omega
  have hk : ∀ i, i ≠ R → (w'.setCell ⟨R, 2, none⟩ (.slice (some ⟨g, 0, none⟩) (cs.length + 1) cap)).heap[i]? = w'.heap[i]? := fun i hi => Below.heap_setCell _ _ _ _ hi
  have hc : ∀ i, v.ownBlock = some i → w'.heap[i]? = w.heap[i]? := fun i hi => hgr.block i (h.row.lt i hi).2 (fun e => h.nev i hi e.symm)
  refine ⟨⟨by rw [heap_setCell_same _ _ _ _ _ _ hR]; rfl, ?_, ?_, h.ne, ?_, ?_⟩, ?_⟩
  · exact ownsKeep h.row (fun i hi => (hk i (fun e => h.ne (by rw [hi, e]))).trans (hc i hi))
  · rw [List.length_append, wys_snoc]
    exact ownsKeep hown (fun i hi => hk i (fun e => hgR (by have : some g = some i := hi; injection this with this; omega)))
  · intro e
    have : some g = some R := e
    injection this with this
    exact hgR this
  · intro x hx e
    have : some g = some x := e
    injection this with this
    subst this
    rcases hg with hg | hg
    · exact h.nev g hx hg
    · have := (h.row.lt g hx).2; omega
  · refine ⟨hgr.os, hgr.tape, hgr.output, Nat.le_trans hgr.size (by simp [World.setCell]), fun i hi ho => (hk i ho.1).trans (hgr.block i hi ho.2.2), fun i hi ho => ⟨ho.1, ho.2.1, fun e => ?_⟩⟩
    have : some i = some g := e
    injection this with this
    subst this
    rcases hg with hg | hg
    · exact ho.2.2 hg.symm
    · omega
end
/-- append(l, x), at a list of operations. -/
theorem wpush {ops : Array Oper} {rest : List Oper} {oo : Oper} {a : Act} {U : World} {Q : Exit → Act → World → Prop} {T1 : TypeId} {base n b : Nat} {v : Value} {xs : List Value}
    (hrow : U.ownsRow base 71 2 v n xs) (hgd : oo.guard = none) (s x : Operand)
    (hop : oo.op = .call { callee := .builtin .append, args := #[s, x], argTypes := #[30, 30] }) (hs : a.eval s = v) (hx : a.eval x = .slice (some ⟨b, 0, none⟩) 1 1) (m : Wy)
    (hb : U.heap[b]? = some (.cells #[.int .i64 m.1, .int .i64 m.2] T1 (0, 0))) (hn : n ≤ 100000) (hbase : base ≤ U.heap.size)
    (h : ∀ g cap w', w'.ownsRow base 71 2 (.slice (some ⟨g, 0, none⟩) (n + 1) cap) (n + 1) (xs ++ [.int .i64 m.1, .int .i64 m.2]) → U.grownBy w' v.ownBlock → (v.ownBlock = some g ∨ g = U.heap.size) → wpList Try.prog ops Q rest (a.put oo.dst (.slice (some ⟨g, 0, none⟩) (n + 1) cap)) w') :
    wpList Try.prog ops Q (oo :: rest) a U := by
  obtain ⟨i, hi, hz⟩ := Option.map_eq_some_iff.1 way_info
  simp only [Prod.mk.injEq] at hz
  obtain ⟨z1, z2, z3⟩ := hz
  refine wpList_append_lies _ hgd s x 30 hop base 71 i (.agg #[.int .i64 0, .int .i64 0]) 2 16 Try.underlying30 hi z1 z2 z3 rfl (by decide) v n xs hs hrow ⟨b, 0, none⟩ 1 1 [.int .i64 m.1, .int .i64 m.2] hx rfl
    (fun j u hu => World.news_of_block hb j u hu) (by simp [Value.oneCell']) (by decide) (by unfold maxLen; omega) (by omega) hbase U.heap.size rfl ?_
  intro g cap w' h1 h2 h3 _
  exact h g cap w' h1 h2 h3
theorem at_appW {P : Program} {w : World} {ops : Array Oper} {rest : List Oper} {o : Oper} {a : Act} {Q : Exit → Act → World → Prop} {s x : Operand} {t : TypeId} (_ : o.op = .call { callee := .builtin .append, args := #[s, x], argTypes := #[t, t] }) (h : wpList P ops Q (o :: rest) a w) : wpList P ops Q (o :: rest) a w := h
end Gm

set_option maxRecDepth 20000 in
set_option maxHeartbeats 2000000 in
theorem ncut {R : Nat} {v vc : Value} {last : Int} {l : List Gm.Msg} {cs : List Gm.Wy} {w : World} (h : Gm.DNet R v vc last l cs w) (hcl : cs.length ≤ 100000) (a b : Int) :
    Calls Try.prog 16 #[.pointer (some ⟨R, 0, none⟩), .int .i64 a, .int .i64 b] w fun e w' => e = .returned (.int .i64 (Gm.cutC a b)) ∧ ∃ vc', Gm.DNet R v vc' last l (Gm.cutL a b cs) w' ∧ Gm.Mvg (Gm.NOff R v vc) (Gm.NOff R v vc') w w' := by
  have H := Lib.hid h
  have HPA := rplace a w
  have HPB := rplace b w
  have HIC := niscut h hcl a b
  clear h
  cases pa : Gm.plc a with
  | false =>
    have HE : Hid (Gm.cutC a b = 2 ∧ Gm.cutL a b cs = cs) := by
      have h2 : Gm.cutC a b = 2 := by unfold Gm.cutC; rw [if_neg (by rw [pa]; simp)]
      exact ⟨h2, by unfold Gm.cutL; rw [h2, if_neg (by omega)]⟩
    rw [pa] at HPA
    have HPA := Lib.hid HPA
    clear pa HPB HIC
    go_enter Try.func16, Try.ntmps16
    go_wp2_with fail
    refine HPA.out.mono ?_
    rintro e w1 ⟨rfl, rfl⟩
    go_wp2_with fail
    go_ret
    exact ⟨by rw [HE.out.1]; rfl, vc, by rw [HE.out.2]; exact H.out, Gm.Mvg.refl _ _⟩
  | true =>
    rw [pa] at HPA
    have HPA := Lib.hid HPA
    cases pb : Gm.plc b with
    | false =>
      have HE : Hid (Gm.cutC a b = 2 ∧ Gm.cutL a b cs = cs) := by
        have h2 : Gm.cutC a b = 2 := by unfold Gm.cutC; rw [if_neg (by rw [pb]; simp)]
        exact ⟨h2, by unfold Gm.cutL; rw [h2, if_neg (by omega)]⟩
      rw [pb] at HPB
      have HPB := Lib.hid HPB
      clear pa pb HIC
      go_enter Try.func16, Try.ntmps16
      go_wp2_with fail
      refine HPA.out.mono ?_
      rintro e w1 ⟨rfl, rfl⟩
      go_wp2_with fail
      refine HPB.out.mono ?_
      rintro e w1 ⟨rfl, rfl⟩
      go_wp2_with fail
      go_ret
      exact ⟨by rw [HE.out.1]; rfl, vc, by rw [HE.out.2]; exact H.out, Gm.Mvg.refl _ _⟩
    | true =>
      rw [pb] at HPB
      have HPB := Lib.hid HPB
      have h0 : Gm.cutC a b = 0 := by unfold Gm.cutC; rw [if_pos ⟨pa, pb⟩]
      clear pa pb
      cases hic : Gm.isCut a b cs with
      | true =>
        have HE : Hid (Gm.cutC a b = 0 ∧ Gm.cutL a b cs = cs) := ⟨h0, by unfold Gm.cutL; rw [if_neg (by rw [hic]; simp)]⟩
        rw [hic] at HIC
        have HIC := Lib.hid HIC
        clear h0 hic
        go_enter Try.func16, Try.ntmps16
        go_wp2_with fail
        refine HPA.out.mono ?_
        rintro e w1 ⟨rfl, rfl⟩
        go_wp2_with fail
        refine HPB.out.mono ?_
        rintro e w1 ⟨rfl, rfl⟩
        go_wp2_with fail
        refine HIC.out.mono ?_
        rintro e w1 ⟨rfl, rfl⟩
        go_wp2_with fail
        go_ret
        exact ⟨by rw [HE.out.1]; rfl, vc, by rw [HE.out.2]; exact H.out, Gm.Mvg.refl _ _⟩
      | false =>
        have HE : Hid (Gm.cutC a b = 0 ∧ Gm.cutL a b cs = cs ++ [(a, b)]) := ⟨h0, by unfold Gm.cutL; rw [if_pos ⟨h0, hic⟩]⟩
        rw [hic] at HIC
        have HIC := Lib.hid HIC
        have c2 := H.out.c2
        obtain ⟨A1, n1, rfl⟩ := Gm.own_form H.out.rowc
        have hbA : Below w.heap.size w (w.alloc (.cells #[.int .i64 a, .int .i64 b] 71)) := (Below.refl _ _).alloc (Nat.le_refl _) _
        have HDA := Lib.hid (H.out.below hbA)
        have HBL : Hid ((w.alloc (.cells #[.int .i64 a, .int .i64 b] 71)).heap[w.heap.size]? = some (.cells #[.int .i64 a, .int .i64 b] 71 (0, 0))) := heap_alloc_new w _
        have HMA : Hid (Gm.Mvg (Gm.NOff R v (.slice A1 cs.length n1)) (Gm.NOff R v (.slice A1 cs.length n1)) w (w.alloc (.cells #[.int .i64 a, .int .i64 b] 71))) := .of_below hbA
        clear h0 hic hbA
        go_enter Try.func16, Try.ntmps16
        go_wp2_with fail
        refine HPA.out.mono ?_
        rintro e w1 ⟨rfl, rfl⟩
        go_wp2_with fail
        refine HPB.out.mono ?_
        rintro e w1 ⟨rfl, rfl⟩
        go_wp2_with fail
        refine HIC.out.mono ?_
        rintro e w1 ⟨rfl, rfl⟩
        go_wp2_with (refine Gm.at_appW rfl ?_; refine Gm.wpush HDA.out.rowc rfl _ _ rfl rfl rfl (a, b) HBL.out hcl (Nat.zero_le _) ?_; intro g cap w4 hown hgr hg; have hPU := Lib.hid (HDA.out.pushW hown hgr hg); obtain ⟨x4, y4⟩ := HDA.out.at2 hgr)
        go_ret
        exact ⟨by rw [HE.out.1]; rfl, _, by rw [HE.out.2]; exact hPU.out.1, HMA.out.trans hPU.out.2⟩

namespace Gm
def healF (a b : Int) (cs : List Wy) : List Wy := cs.filter fun x => decide (x ≠ (a, b))
theorem healF_len (a b : Int) (cs : List Wy) : (healF a b cs).length ≤ cs.length := List.length_filter_le ..
theorem healF_snoc (a b : Int) (l : List Wy) (x : Wy) : healF a b (l ++ [x]) = healF a b l ++ if x ≠ (a, b) then [x] else [] := by
  unfold healF
  rw [List.filter_append]
  congr 1
  by_cases h : x = (a, b)
  · rw [if_neg (by simpa using h), List.filter_cons_of_neg (by simpa using h)]
    rfl
  · rw [if_pos h, List.filter_cons_of_pos (by simpa using h)]
    rfl
theorem DNet.setC {R : Nat} {v vc : Value} {last : Int} {l : List Msg} {cs cs2 : List Wy} {w w2 : World} {A : Option Addr} {c : Nat} (h : DNet R v vc last l cs w) (hb : Below w.heap.size w w2) (hown : w2.ownsRow w.heap.size 71 2 (.slice A cs2.length c) cs2.length (wys cs2)) :
    DNet R v (.slice A cs2.length c) last l cs2 (w2.setCell ⟨R, 2, none⟩ (.slice A cs2.length c)) ∧ Mvg (NOff R v vc) (NOff R v (.slice A cs2.length c)) w (w2.setCell ⟨R, 2, none⟩ (.slice A cs2.length c)) := by
  have hRl := ltHeap h.obj
  have hR : w2.heap[R]? = some (.cells #[.int .u64 last, v, vc] 32 (0, 0)) := (hb.block R hRl).trans h.obj
  have hge : ∀ x, (Value.slice A cs2.length c).ownBlock = some x → w.heap.size ≤ x := fun x hx => (hown.lt x hx).1
  have hk : ∀ i, i ≠ R → (w2.setCell ⟨R, 2, none⟩ (.slice A cs2.length c)).heap[i]? = w2.heap[i]? := fun i hi => Below.heap_setCell _ _ _ _ hi
  refine ⟨⟨by rw [heap_setCell_same _ _ _ _ _ _ hR]; rfl, ?_, ?_, h.ne, ?_, ?_⟩, ?_⟩
  · exact ownsKeep h.row (fun i hi => (hk i (fun e => h.ne (by rw [hi, e]))).trans (hb.block i (h.row.lt i hi).2))
  · exact ownsKeep (ownsBase hown) (fun i hi => hk i (fun e => by have := hge i hi; omega))
  · intro e
    have := hge R e
    omega
  · intro x hx e
    have := hge x e
    have := (h.row.lt x hx).2
    omega
  · refine ⟨hb.os, hb.tape, hb.output, Nat.le_trans hb.size (by simp [World.setCell]), fun i hi ho => (hk i ho.1).trans (hb.block i hi), fun i hi ho => ⟨ho.1, ho.2.1, fun e => ?_⟩⟩
    have := hge i e.symm
    omega
end Gm

set_option maxRecDepth 20000 in
set_option maxHeartbeats 4000000 in
theorem nheal {R : Nat} {v vc : Value} {last : Int} {l : List Gm.Msg} {cs : List Gm.Wy} {w : World} (h : Gm.DNet R v vc last l cs w) (hcl : cs.length ≤ 100000) (a b : Int) :
    Calls Try.prog 18 #[.pointer (some ⟨R, 0, none⟩), .int .i64 a, .int .i64 b] w fun e w' => e = .returned (.int .i64 (Gm.cutC a b)) ∧ ∃ vc', Gm.DNet R v vc' last l (Gm.healL a b cs) w' ∧ Gm.Mvg (Gm.NOff R v vc) (Gm.NOff R v vc') w w' := by
  have H := Lib.hid h
  have HPA := rplace a w
  have HPB := rplace b w
  clear h
  cases pa : Gm.plc a with
  | false =>
    have HE : Hid (Gm.cutC a b = 2 ∧ Gm.healL a b cs = cs) := by
      have h2 : Gm.cutC a b = 2 := by unfold Gm.cutC; rw [if_neg (by rw [pa]; simp)]
      exact ⟨h2, by unfold Gm.healL; rw [h2, if_neg (by omega)]⟩
    rw [pa] at HPA
    have HPA := Lib.hid HPA
    clear pa HPB
    go_enter Try.func18, Try.ntmps18
    go_wp2_with fail
    refine HPA.out.mono ?_
    rintro e w1 ⟨rfl, rfl⟩
    go_wp2_with fail
    go_ret
    exact ⟨by rw [HE.out.1]; rfl, vc, by rw [HE.out.2]; exact H.out, Gm.Mvg.refl _ _⟩
  | true =>
    rw [pa] at HPA
    have HPA := Lib.hid HPA
    cases pb : Gm.plc b with
    | false =>
      have HE : Hid (Gm.cutC a b = 2 ∧ Gm.healL a b cs = cs) := by
        have h2 : Gm.cutC a b = 2 := by unfold Gm.cutC; rw [if_neg (by rw [pb]; simp)]
        exact ⟨h2, by unfold Gm.healL; rw [h2, if_neg (by omega)]⟩
      rw [pb] at HPB
      have HPB := Lib.hid HPB
      clear pa pb
      go_enter Try.func18, Try.ntmps18
      go_wp2_with fail
      refine HPA.out.mono ?_
      rintro e w1 ⟨rfl, rfl⟩
      go_wp2_with fail
      refine HPB.out.mono ?_
      rintro e w1 ⟨rfl, rfl⟩
      go_wp2_with fail
      go_ret
      exact ⟨by rw [HE.out.1]; rfl, vc, by rw [HE.out.2]; exact H.out, Gm.Mvg.refl _ _⟩
    | true =>
      rw [pb] at HPB
      have HPB := Lib.hid HPB
      have HE : Hid (Gm.cutC a b = 0 ∧ Gm.healL a b cs = Gm.healF a b cs) := by
        have h0 : Gm.cutC a b = 0 := by unfold Gm.cutC; rw [if_pos ⟨pa, pb⟩]
        exact ⟨h0, by unfold Gm.healL; rw [if_pos h0]; rfl⟩
      clear pa pb
      have c2 := H.out.c2
      obtain ⟨A1, n1, rfl⟩ := Gm.own_form H.out.rowc
      have HLI := Lib.hid (Gm.own_liesW H.out.rowc)
      go_enter Try.func18, Try.ntmps18
      go_wp2_with fail
      refine HPA.out.mono ?_
      rintro e w1 ⟨rfl, rfl⟩
      go_wp2_with fail
      refine HPB.out.mono ?_
      rintro e w1 ⟨rfl, rfl⟩
      go_wp2_with fail
      clear c2
      go_loopw [7, 8] (fun s7 s8 wr => ∃ (i : Nat) (A2 : Option Addr) (c2 : Nat), i ≤ cs.length ∧ s7 = .slice A2 (Gm.healF a b (cs.take i)).length c2 ∧ s8 = .int .i64 i ∧ Hid (wr.ownsRow w.heap.size 71 2 (.slice A2 (Gm.healF a b (cs.take i)).length c2) (Gm.healF a b (cs.take i)).length (Gm.wys (Gm.healF a b (cs.take i))) ∧ Below w.heap.size w wr)) (fun _ s8 _ => cs.length - (intOf s8).toNat)
      case atStart => exact ⟨0, none, 0, Nat.zero_le _, rfl, rfl, ⟨rfl, .inl ⟨rfl, rfl⟩⟩, Below.refl _ _⟩
      case round =>
        obtain ⟨i, A2, c2, hi, rfl, rfl, HS⟩ := hrel
        have cC := (H.out.below HS.out.2).c2
        by_cases hlt : i < cs.length
        · obtain ⟨p, rfl, hpb, hp0, hp1⟩ := Gm.atW (HLI.out.below HS.out.2) hlt
          have k0 : (0 : Int) ≤ (i : Int) := by omega
          have k1 : (i : Int) < cs.length := by omega
          have HSN : Hid (Gm.healF a b (cs.take (i + 1)) = Gm.healF a b (cs.take i) ++ if cs[i] ≠ (a, b) then [cs[i]] else []) := by
            show _ = _
            rw [List.take_succ_eq_append_getElem hlt, Gm.healF_snoc]
          have HLN : Hid ((Gm.healF a b (cs.take i)).length ≤ 100000) := by
            have h1 := Gm.healF_len a b (cs.take i)
            rw [List.length_take] at h1
            show _ ≤ _
            omega
          generalize Gm.healF a b (cs.take i) = L at HS HSN HLN ⊢
          generalize cs[i] = x at hp0 hp1 HSN
          obtain ⟨x1, x2⟩ := x
          simp only [] at hp0 hp1
          clear hpb hlt
          by_cases e : x1 = a ∧ x2 = b
          · have HN : Hid (Gm.healF a b (cs.take (i + 1)) = L) := by
              show _ = _
              rw [HSN.out, if_neg (by rw [e.1, e.2]; simp), List.append_nil]
            have d1 : (x1 == a) = true := by simpa using e.1
            have d2 : (x2 == b) = true := by simpa using e.2
            clear e HSN
            go_wp2_with fail
            go_roundw
            case rel => exact ⟨i + 1, A2, c2, by omega, by rw [HN.out], by go_num, by rw [HN.out]; exact HS.out⟩
            case measure => simp [intOf]; omega
          · have HN : Hid (Gm.healF a b (cs.take (i + 1)) = L ++ [(x1, x2)]) := by
              show _ = _
              rw [HSN.out, if_pos (by intro h; exact e ⟨congrArg Prod.fst h, congrArg Prod.snd h⟩)]
            have hsz := HS.out.2.size
            have hbA : Below wr.heap.size wr (wr.alloc (.cells #[.int .i64 x1, .int .i64 x2] 71)) := (Below.refl _ _).alloc (Nat.le_refl _) _
            have HOA : Hid ((wr.alloc (.cells #[.int .i64 x1, .int .i64 x2] 71)).ownsRow w.heap.size 71 2 (.slice A2 L.length c2) L.length (Gm.wys L)) := Gm.ownsKeep HS.out.1 (fun q hq => hbA.block q (HS.out.1.lt q hq).2)
            have HBL : Hid ((wr.alloc (.cells #[.int .i64 x1, .int .i64 x2] 71)).heap[wr.heap.size]? = some (.cells #[.int .i64 x1, .int .i64 x2] 71 (0, 0))) := heap_alloc_new wr _
            have HBB : Hid (Below w.heap.size w (wr.alloc (.cells #[.int .i64 x1, .int .i64 x2] 71))) := HS.out.2.trans (hbA.mono hsz)
            have hszA := HBB.out.size
            have d : ((x1 == a) && (x2 == b)) = false := by
              rw [Bool.eq_false_iff]
              intro h
              rw [Bool.and_eq_true, beq_iff_eq, beq_iff_eq] at h
              exact e h
            clear HSN e hbA hsz
            by_cases f1 : x1 = a
            · have d1 : (x1 == a) = true := by simpa using f1
              have d2 : (x2 == b) = false := by rw [d1] at d; simpa using d
              clear d f1
              go_wp2_with (refine Gm.at_appW rfl ?_; refine Gm.wpush HOA.out rfl _ _ rfl rfl rfl (x1, x2) HBL.out HLN.out hszA ?_; intro g cap w4 hown hgr hg)
              have HNW : Hid (w4.ownsRow w.heap.size 71 2 (.slice (some ⟨g, 0, none⟩) (L ++ [(x1, x2)]).length cap) (L ++ [(x1, x2)]).length (Gm.wys (L ++ [(x1, x2)])) ∧ Below w.heap.size w w4) := by
                refine ⟨?_, HBB.out.grown hgr hszA (fun q hq => (HOA.out.lt q hq).1)⟩
                rw [List.length_append, Gm.wys_snoc]
                exact hown
              have hll : (L ++ [(x1, x2)]).length = L.length + 1 := by rw [List.length_append]; rfl
              have HLL := Lib.hid hll
              clear hown hgr hg hll
              go_wp2_with fail
              go_roundw
              case rel => exact ⟨i + 1, some ⟨g, 0, none⟩, cap, by omega, by rw [HN.out, HLL.out], by go_num, by rw [HN.out]; exact HNW.out⟩
              case measure => simp [intOf]; omega
            · have d1 : (x1 == a) = false := by rw [beq_eq_false_iff_ne]; exact f1
              clear d f1
              go_wp2_with (refine Gm.at_appW rfl ?_; refine Gm.wpush HOA.out rfl _ _ rfl rfl rfl (x1, x2) HBL.out HLN.out hszA ?_; intro g cap w4 hown hgr hg)
              have HNW : Hid (w4.ownsRow w.heap.size 71 2 (.slice (some ⟨g, 0, none⟩) (L ++ [(x1, x2)]).length cap) (L ++ [(x1, x2)]).length (Gm.wys (L ++ [(x1, x2)])) ∧ Below w.heap.size w w4) := by
                refine ⟨?_, HBB.out.grown hgr hszA (fun q hq => (HOA.out.lt q hq).1)⟩
                rw [List.length_append, Gm.wys_snoc]
                exact hown
              have hll : (L ++ [(x1, x2)]).length = L.length + 1 := by rw [List.length_append]; rfl
              have HLL := Lib.hid hll
              clear hown hgr hg hll
              go_wp2_with fail
              go_roundw
              case rel => exact ⟨i + 1, some ⟨g, 0, none⟩, cap, by omega, by rw [HN.out, HLL.out], by go_num, by rw [HN.out]; exact HNW.out⟩
              case measure => simp [intOf]; omega
        · have k1 : ¬ (i : Int) < (cs.length : Int) := by omega
          have HTK : Hid (cs.take i = cs) := List.take_of_length_le (by omega)
          have HF := HS.out
          rw [HTK.out] at HF
          have HSC := Lib.hid (H.out.setC HF.2 HF.1)
          have f2 := frozen_of_row _ _ 2 _ _ (H.out.below HS.out.2).obj
          rw [HTK.out]
          clear hlt HF HS
          go_wp2_with fail
          go_ret
          exact ⟨by rw [HE.out.1]; rfl, _, by rw [HE.out.2]; exact HSC.out.1, HSC.out.2⟩
end Go.Proofs.Ytfhengihdlojmaa
