/-
  The document's net: a message or a way appended; Send.
-/
import Derived.Test.YtfhengihdlojmaaGmE
import Derived.Test.YtfhengihdlojmaaPgD
import Derived.Test.YtfhengihdlojmaaPgF
import Derived.Deep.RegionLaw
import Derived.Deep.AppendLies
import Derived.BigRegion
import Derived.Deep.DeepCutAuto
import Derived.Deep.CutBlock
namespace Go.Proofs.Ytfhengihdlojmaa
open Go.RowKit

namespace Gm
section
variable {R : Nat} {v vc : Value} {last : Int} {l : List Msg} {cs : List Wy} {w : World}
theorem DNet.setLast (h : DNet R v vc last l cs w) (k : Int) : DNet R v vc k l cs (w.setCell ⟨R, 0, none⟩ (.int .u64 k)) := by
  have hk : ∀ i, i ≠ R → (w.setCell ⟨R, 0, none⟩ (.int .u64 k)).heap[i]? = w.heap[i]? := fun i hi => Below.heap_setCell _ _ _ _ hi
  refine ⟨by rw [heap_setCell_same _ _ _ _ _ _ h.obj]; rfl, ownsKeep h.row (fun i hi => hk i (fun e => h.ne (by rw [hi, e]))), ownsKeep h.rowc (fun i hi => hk i (fun e => h.nec (by rw [hi, e]))), h.ne, h.nec, h.nev⟩
theorem Mvg.setR {off : Nat → Prop} {a : World} (h : Mvg off (NOff R v vc) a w) (i : Nat) (x : Value) : Mvg off (NOff R v vc) a (w.setCell ⟨R, i, none⟩ x) :=
  ⟨h.os, h.tape, h.output, Nat.le_trans h.size (by simp [World.setCell]), fun j hj ho => (Below.heap_setCell _ _ _ _ (fun e => (h.keep j hj ho).1 e)).trans (h.block j hj ho), h.keep⟩
theorem DNet.at1 {w' : World} (h : DNet R v vc last l cs w) (hgr : w.grownBy w' v.ownBlock) : w'.cell? ⟨R, 1, none⟩ = some v ∧ w'.frozen? ⟨R, 1, none⟩ = false := by
  have hR : w'.heap[R]? = some (.cells #[.int .u64 last, v, vc] 32 (0, 0)) := (hgr.block R (ltHeap h.obj) (fun e => h.ne e.symm)).trans h.obj
  exact ⟨cell_of_row _ _ 1 _ _ _ hR, frozen_of_row _ _ 1 _ _ hR⟩
/-- A message was appended. -/
theorem DNet.push {g cap : Nat} {m : Msg} {w' : World} (h : DNet R v vc last l cs w) (hown : w'.ownsRow 0 41 4 (.slice (some ⟨g, 0, none⟩) (l.length + 1) cap) (l.length + 1) (msgs l ++ m.cells)) (hgr : w.grownBy w' v.ownBlock) (hg : v.ownBlock = some g ∨ g = w.heap.size) :
    DNet R (.slice (some ⟨g, 0, none⟩) (l.length + 1) cap) vc last (l ++ [m]) cs (w'.setCell ⟨R, 1, none⟩ (.slice (some ⟨g, 0, none⟩) (l.length + 1) cap)) ∧ Mvg (NOff R v vc) (NOff R (.slice (some ⟨g, 0, none⟩) (l.length + 1) cap) vc) w (w'.setCell ⟨R, 1, none⟩ (.slice (some ⟨g, 0, none⟩) (l.length + 1) cap)) := by
  have hRl := ltHeap h.obj
  have hR : w'.heap[R]? = some (.cells #[.int .u64 last, v, vc] 32 (0, 0)) := (hgr.block R hRl (fun e => h.ne e.symm)).trans h.obj
  have hgR : g ≠ R := fun e => by
    rcases hg with hg | hg
    · exact h.ne (by rw [hg, e])
    · omega
  have hk : ∀ i, i ≠ R → (w'.setCell ⟨R, 1, none⟩ (.slice (some ⟨g, 0, none⟩) (l.length + 1) cap)).heap[i]? = w'.heap[i]? := fun i hi => Below.heap_setCell _ _ _ _ hi
  have hc : ∀ i, vc.ownBlock = some i → w'.heap[i]? = w.heap[i]? := fun i hi => hgr.block i (h.rowc.lt i hi).2 (fun e => h.nev i e.symm hi)
  refine ⟨⟨by rw [heap_setCell_same _ _ _ _ _ _ hR]; rfl, ?_, ?_, ?_, h.nec, ?_⟩, ?_⟩
  · rw [List.length_append, msgs_snoc]
    exact ownsKeep hown (fun i hi => hk i (fun e => hgR (by have : some g = some i := hi; injection this with this; omega)))
  · exact ownsKeep h.rowc (fun i hi => (hk i (fun e => h.nec (by rw [hi, e]))).trans (hc i hi))
  · intro e
    have : some g = some R := e
    injection this with this
    exact hgR this
  · intro x hx e
    have : some g = some x := hx
    injection this with this
    subst this
    rcases hg with hg | hg
    · exact h.nev g hg e
    · have := (h.rowc.lt g e).2; omega
  · refine ⟨hgr.os, hgr.tape, hgr.output, Nat.le_trans hgr.size (by simp [World.setCell]), fun i hi ho => (hk i ho.1).trans (hgr.block i hi ho.2.1), fun i hi ho => ⟨ho.1, fun e => ?_, ho.2.2⟩⟩
    have : some i = some g := e
    injection this with this
    subst this
    rcases hg with hg | hg
    · exact ho.2.1 hg.symm
    · omega
end
/-- append(l, x), at a step of a region that draws. -/
theorem gpush_step {ops : Array Oper} {oo : Oper} {a : Act} {U : World} {K : Act → World → Prop} {Q : Exit → Act → World → Prop} {E : Prop} {T1 : TypeId} {n b : Nat} {v : Value} {xs : List Value}
    (hrow : U.ownsRow 0 41 4 v n xs) (hgd : oo.guard = none) (s x : Operand)
    (hop : oo.op = .call { callee := .builtin .append, args := #[s, x], argTypes := #[29, 29] }) (hs : a.eval s = v) (hx : a.eval x = .slice (some ⟨b, 0, none⟩) 1 1) (m : Msg)
    (hb : U.heap[b]? = some (.cells #[.int .u64 m.id, .int .i64 m.fr, .int .i64 m.to, .string m.text] T1 (0, 0))) (hn : n ≤ 100000)
    (h : ∀ g cap w', w'.ownsRow 0 41 4 (.slice (some ⟨g, 0, none⟩) (n + 1) cap) (n + 1) (xs ++ m.cells) → U.grownBy w' v.ownBlock → (v.ownBlock = some g ∨ g = U.heap.size) → K (a.put oo.dst (.slice (some ⟨g, 0, none⟩) (n + 1) cap)) w') :
    if Region.wanted oo (yielded ops a.tmps) = true then Oper.wp Try.prog oo a U K Q else E := by
  obtain ⟨i, hi, hz⟩ := Option.map_eq_some_iff.1 msg_info
  simp only [Prod.mk.injEq] at hz
  obtain ⟨z1, z2, z3⟩ := hz
  refine step_append_lies _ hgd s x 29 hop 0 41 i (.agg #[.int .u64 0, .int .i64 0, .int .i64 0, .string ⟨#[]⟩]) 4 40 Try.underlying29 hi z1 z2 z3 rfl (by decide) v n xs hs hrow ⟨b, 0, none⟩ 1 1 m.cells hx rfl
    (fun j u hu => World.news_of_block hb j u hu) (by unfold Msg.cells; simp [Value.oneCell']) (by decide) (by unfold maxLen; omega) (by omega) (Nat.zero_le _) U.heap.size rfl ?_
  intro g cap w' h1 h2 h3 _
  exact h g cap w' h1 h2 h3
theorem all_take {tos : List Int} {p : Int → Bool} (h : ∀ x ∈ tos, p x = true) : tos.all p = true := List.all_eq_true.2 h
end Gm

set_option maxRecDepth 20000 in
set_option maxHeartbeats 4000000 in
theorem nsend {R : Nat} {v vc : Value} {last : Int} {l : List Gm.Msg} {cs : List Gm.Wy} {w : World} (h : Gm.DNet R v vc last l cs w) (hl : l.length ≤ 4096) (l0 : 0 ≤ last) (l1 : last ≤ 900000) (fr : Int) (text : ByteArray)
    (tos : List Int) (A : Option Addr) (c : Nat) (hli : Lies w w.heap.size A (icells tos)) (hoff : tos ≠ [] → ∀ p, A = some p → Gm.NOff R v vc p.block) (htn : tos.length ≤ 5000) :
    Calls Try.prog 8 #[.pointer (some ⟨R, 0, none⟩), .int .i64 fr, .string text, .slice A tos.length c] w fun e w' =>
      e = .returned (.tuple #[.int .i64 (Gm.sendN fr text tos l.length), .int .i64 (Gm.sendC fr text tos l.length)]) ∧ ∃ v', Gm.DNet R v' vc (Gm.sendM fr text tos last l) (Gm.sendL fr text tos last l) cs w' ∧ Gm.Mvg (Gm.NOff R v vc) (Gm.NOff R v' vc) w w' := by
  have H := Lib.hid h
  have HLI := Lib.hid hli
  have HOFF := Lib.hid hoff
  have HNO : Hid (∀ k : Int, k ≠ 0 → Gm.sendC fr text tos l.length = k → Gm.sendN fr text tos l.length = 0 ∧ Gm.sendC fr text tos l.length = k ∧ Gm.DNet R v vc (Gm.sendM fr text tos last l) (Gm.sendL fr text tos last l) cs w) := fun k hk hc => by
    have hne : Gm.sendC fr text tos l.length ≠ 0 := by rw [hc]; exact hk
    refine ⟨by unfold Gm.sendN; rw [if_neg hne], hc, ?_⟩
    unfold Gm.sendM Gm.sendL
    rw [if_neg hne, if_neg hne]
    exact h
  have c1 := h.c1
  obtain ⟨A1, n1, rfl⟩ := Gm.own_form h.row
  have htn63 : (tos.length : Int) ≤ 9223372036854775807 := by omega
  clear h hli hoff
  go_enter Try.func8, Try.ntmps8
  go_wp2_with fail
  go_loopw [10] (fun s wr => ∃ k : Nat, k ≤ tos.length ∧ s = .int .i64 k ∧ Hid (∀ x ∈ tos.take k, Gm.plc x = true) ∧ w = wr) (fun s _ => tos.length - (intOf s).toNat)
  case atStart => exact ⟨0, Nat.zero_le _, rfl, fun x hx => by simp at hx, rfl⟩
  case round =>
    obtain ⟨k, hk, rfl, HP, rfl⟩ := hrel
    by_cases hlt : k < tos.length
    · have k0 : (0 : Int) ≤ (k : Int) := by omega
      have k1 : (k : Int) < (tos.length : Int) := by omega
      obtain ⟨ad, rfl, -, hc⟩ := HLI.out.at_ (icells_at hlt)
      have HT := Lib.hid (List.take_succ_eq_append_getElem hlt)
      have HME := Lib.hid (List.getElem_mem hlt)
      generalize tos[k] = x at hc HT HME
      have HPL := rplace x w
      cases hp : Gm.plc x with
      | true =>
        rw [hp] at HPL
        have HPL := Lib.hid HPL
        have HN : Hid (∀ y ∈ tos.take (k + 1), Gm.plc y = true) := fun y hy => by
          rw [HT.out, List.mem_append, List.mem_singleton] at hy
          rcases hy with hy | rfl
          · exact HP.out y hy
          · exact hp
        clear hp hlt HT HP HME
        go_wp2_with fail
        refine HPL.out.mono ?_
        rintro e w1 ⟨rfl, rfl⟩
        go_wp2_with fail
        go_roundw
        case rel => exact ⟨k + 1, by omega, by go_num, HN.out, trivial⟩
        case measure => simp [intOf]; omega
      | false =>
        rw [hp] at HPL
        have HPL := Lib.hid HPL
        have hfa : tos.all Gm.plc = false := by
          rw [← Bool.not_eq_true, List.all_eq_true]
          intro h
          exact absurd (h x HME.out) (by rw [hp]; decide)
        have HE := Lib.hid (HNO.out 2 (by decide) (by unfold Gm.sendC; rw [if_pos (.inr hfa)]))
        clear hfa
        clear hp hlt HT HP HME
        go_wp2_with fail
        refine HPL.out.mono ?_
        rintro e w1 ⟨rfl, rfl⟩
        go_wp2_with fail
        refine bodyPost_ret (results_tmp2 rfl _ _ _) rfl ?_
        exact ⟨by rw [HE.out.1, HE.out.2.1]; rfl, _, HE.out.2.2, Gm.Mvg.refl _ _⟩
    · have k1 : ¬ (k : Int) < (tos.length : Int) := by omega
      have HAP : Hid (tos.all Gm.plc = true) := Gm.all_take (fun x hx => HP.out x (by rw [List.take_of_length_le (by omega)]; exact hx))
      have HPF := rplace fr w
      clear hlt HP
      cases hp : Gm.plc fr with
      | false =>
        rw [hp] at HPF
        have HPF := Lib.hid HPF
        have HE := Lib.hid (HNO.out 2 (by decide) (by unfold Gm.sendC; rw [if_pos (.inl hp)]))
        clear hp
        go_wp2_with fail
        refine HPF.out.mono ?_
        rintro e w1 ⟨rfl, rfl⟩
        go_wp2_with fail
        refine bodyPost_ret (results_tmp2 rfl _ _ _) rfl ?_
        exact ⟨by rw [HE.out.1, HE.out.2.1]; rfl, _, HE.out.2.2, Gm.Mvg.refl _ _⟩
      | true =>
        rw [hp] at HPF
        have HPF := Lib.hid HPF
        have hnp : ¬ (Gm.plc fr = false ∨ tos.all Gm.plc = false) := by rw [hp, HAP.out]; simp
        clear hp
        by_cases ht : 16384 < text.size
        · have HE := Lib.hid (HNO.out 4 (by decide) (by unfold Gm.sendC; rw [if_neg hnp, if_pos ht]))
          have d1 : (16384 : Int) < (text.size : Int) := by omega
          clear ht hnp
          go_wp2_with fail
          refine HPF.out.mono ?_
          rintro e w1 ⟨rfl, rfl⟩
          go_wp2_with fail
          refine bodyPost_ret (results_tmp2 rfl _ _ _) rfl ?_
          exact ⟨by rw [HE.out.1, HE.out.2.1]; rfl, _, HE.out.2.2, Gm.Mvg.refl _ _⟩
        · have d1 : ¬ (16384 : Int) < (text.size : Int) := by omega
          obtain ⟨M, hM⟩ : ∃ M : Int, (4096 : Int) - (l.length : Int) = M := ⟨_, rfl⟩
          have hMw : IntKind.i64.wrap M = M := by rw [IntKind.wrap_i64]; omega
          by_cases hf : 4096 < l.length + tos.length
          · have HE := Lib.hid (HNO.out 6 (by decide) (by unfold Gm.sendC; rw [if_neg hnp, if_neg ht, if_pos hf]))
            have d2 : M < (tos.length : Int) := by omega
            clear ht hnp hf
            go_wp2_with fail
            refine HPF.out.mono ?_
            rintro e w1 ⟨rfl, rfl⟩
            go_wp2_with fail
            refine bodyPost_ret (results_tmp2 rfl _ _ _) rfl ?_
            exact ⟨by rw [HE.out.1, HE.out.2.1]; rfl, _, HE.out.2.2, Gm.Mvg.refl _ _⟩
          · have hz : Gm.sendC fr text tos l.length = 0 := by unfold Gm.sendC; rw [if_neg hnp, if_neg ht, if_neg hf]
            have HE : Hid (Gm.sendN fr text tos l.length = tos.length ∧ Gm.sendC fr text tos l.length = 0 ∧ Gm.sendM fr text tos last l = last + tos.length ∧ Gm.sendL fr text tos last l = l ++ Gm.sent last fr text tos) := by
              refine ⟨?_, hz, ?_, ?_⟩
              · unfold Gm.sendN; rw [if_pos hz]
              · unfold Gm.sendM; rw [if_pos hz]
              · unfold Gm.sendL; rw [if_pos hz]
            have d2 : ¬ M < (tos.length : Int) := by omega
            have htm : tos.length ≤ 4096 := by omega
            clear ht hnp hf hz HNO
            go_wp2_with fail
            refine HPF.out.mono ?_
            rintro e w1 ⟨rfl, rfl⟩
            go_wp2_with fail
            clear c1
            go_loopw [11] (fun s wr => ∃ (k : Nat) (v' : Value), k ≤ tos.length ∧ s = .int .i64 k ∧ Hid (Gm.DNet R v' vc (last + (k : Int)) (l ++ Gm.sent last fr text (tos.take k)) cs wr ∧ Gm.Mvg (Gm.NOff R (.slice A1 l.length n1) vc) (Gm.NOff R v' vc) w wr)) (fun s _ => tos.length - (intOf s).toNat)
            case atStart => exact ⟨0, _, Nat.zero_le _, rfl, by have := H.out; rw [List.take_zero, show Gm.sent last fr text [] = [] from rfl, List.append_nil]; simpa using this, Gm.Mvg.refl _ _⟩
            case round =>
              obtain ⟨k, v', hk, rfl, HS⟩ := hrel
              by_cases hlt : k < tos.length
              · have k0 : (0 : Int) ≤ (k : Int) := by omega
                have k1 : (k : Int) < (tos.length : Int) := by omega
                obtain ⟨A2, n2, rfl⟩ := Gm.own_form HS.out.1.row
                have hll : (l ++ Gm.sent last fr text (tos.take k)).length = l.length + k := by rw [List.length_append, Gm.sent_len, List.length_take]; omega
                obtain ⟨nx, hnx⟩ : ∃ nx : Int, last + (k : Int) + 1 = nx := ⟨_, rfl⟩
                have hnw : IntKind.u64.wrap nx = nx := by rw [IntKind.wrap_u64]; omega
                have HD1 := Lib.hid (HS.out.1.setLast nx)
                have HM1 := Lib.hid (HS.out.2.setR 0 (.int .u64 nx))
                have hcl := (Gm.lies_mvg HLI.out (HOFF.out (fun e => by rw [e] at hlt; simp at hlt)) HM1.out)
                obtain ⟨ad, rfl, hadb, hc⟩ := hcl.at_ (icells_at hlt)
                have HSN : Hid (Gm.sent last fr text (tos.take (k + 1)) = Gm.sent last fr text (tos.take k) ++ [⟨nx, fr, tos[k], text⟩]) := by
                  show _ = _
                  rw [List.take_succ_eq_append_getElem hlt, Gm.sent_snoc, List.length_take, Nat.min_eq_left (by omega), ← hnx]
                generalize tos[k] = t at hc HSN
                have c0 := HS.out.1.c0
                have f0 := frozen_of_row _ _ 0 _ _ HS.out.1.obj
                clear hcl hlt
                obtain ⟨V, hV⟩ : ∃ V, V = wr.setCell ⟨R, 0, none⟩ (.int .u64 nx) := ⟨_, rfl⟩
                rw [← hV] at HD1 HM1 hc hadb
                go_upto_region 16 with fail
                rw [← hV]
                clear hV c0 f0
                obtain ⟨L, hL⟩ : ∃ L, l ++ Gm.sent last fr text (tos.take k) = L := ⟨_, rfl⟩
                have HLE := Lib.hid hL
                rw [hL] at HS HD1 HM1 hll
                clear hL
                have hL100 : L.length ≤ 100000 := by omega
                have c0 := HD1.out.c0
                have c1 := HD1.out.c1
                have hbA : Below V.heap.size V (V.alloc (.cells #[.int .u64 nx, .int .i64 fr, .int .i64 t, .string text] 41)) := (Below.refl _ _).alloc (Nat.le_refl _) _
                have hDA := HD1.out.below hbA
                have HDA : Hid (Gm.DNet R (.slice A2 L.length n2) vc nx L cs (V.alloc (.cells #[.int .u64 nx, .int .i64 fr, .int .i64 t, .string text] 41)).drew) := hDA.below ((Below.refl _ _).drew)
                have HBL : Hid ((V.alloc (.cells #[.int .u64 nx, .int .i64 fr, .int .i64 t, .string text] 41)).drew.heap[V.heap.size]? = some (.cells #[.int .u64 nx, .int .i64 fr, .int .i64 t, .string text] 41 (0, 0))) := heap_alloc_new V _
                have HMA : Hid (Gm.Mvg (Gm.NOff R (.slice A1 l.length n1) vc) (Gm.NOff R (.slice A2 L.length n2) vc) w (V.alloc (.cells #[.int .u64 nx, .int .i64 fr, .int .i64 t, .string text] 41)).drew) := HM1.out.trans (.of_below hbA.drew)
                have c1' : (V.alloc (.cells #[.int .u64 nx, .int .i64 fr, .int .i64 t, .string text] 41)).cell? ⟨R, 1, none⟩ = some (.slice A2 L.length n2) := hDA.c1
                have HLL := Lib.hid hll
                clear hll
                clear hbA hDA hadb
                go_region_law (first
                  | (refine Gm.gpush_step (U := (V.alloc (.cells #[.int .u64 nx, .int .i64 fr, .int .i64 t, .string text] 41)).drew) HDA.out.row (by rfl) _ _ (by rfl) (by rfl) (by rfl) ⟨nx, fr, t, text⟩ HBL.out hL100 ?_
                     intro g cap w4 hown hgr hg
                     have hPU := Lib.hid (HDA.out.push hown hgr hg)
                     obtain ⟨x4, y4⟩ := HDA.out.at1 hgr))
                all_goals
                  have hNEW : Hid (Gm.DNet R (.slice (some ⟨g, 0, none⟩) (L.length + 1) cap) vc (last + ((k + 1 : Nat) : Int)) (l ++ Gm.sent last fr text (tos.take (k + 1))) cs (w4.setCell ⟨R, 1, none⟩ (.slice (some ⟨g, 0, none⟩) (L.length + 1) cap)) ∧ Gm.Mvg (Gm.NOff R (.slice A1 l.length n1) vc) (Gm.NOff R (.slice (some ⟨g, 0, none⟩) (L.length + 1) cap) vc) w (w4.setCell ⟨R, 1, none⟩ (.slice (some ⟨g, 0, none⟩) (L.length + 1) cap))) := by
                    refine ⟨?_, HMA.out.trans hPU.out.2⟩
                    rw [HSN.out, ← List.append_assoc, HLE.out, show last + ((k + 1 : Nat) : Int) = nx by omega]
                    exact hPU.out.1
                  clear hown hgr hg hPU x4 y4 HDA HBL HMA c1' c0 c1
                  simp only [Exit.inBlock, Exit.then]
                  go_at_K
                  go_wp2_with fail
                  exact ⟨⟨k + 1, _, by omega, by go_num, hNEW.out⟩, by simp [intOf]; omega⟩
              · have k1 : ¬ (k : Int) < (tos.length : Int) := by omega
                have hkk : k = tos.length := by omega
                have hF : Hid (Gm.DNet R v' vc (last + (tos.length : Int)) (l ++ Gm.sent last fr text tos) cs wr ∧ Gm.Mvg (Gm.NOff R (.slice A1 l.length n1) vc) (Gm.NOff R v' vc) w wr) := by
                  have := HS.out
                  rw [hkk, List.take_of_length_le (Nat.le_refl _)] at this
                  exact this
                clear HS hlt hkk
                go_wp2_with fail
                refine bodyPost_ret (results_tmp2 rfl _ _ _) rfl ?_
                exact ⟨by rw [HE.out.1, HE.out.2.1]; rfl, v', by rw [HE.out.2.2.1, HE.out.2.2.2]; exact hF.out.1, hF.out.2⟩
end Go.Proofs.Ytfhengihdlojmaa
