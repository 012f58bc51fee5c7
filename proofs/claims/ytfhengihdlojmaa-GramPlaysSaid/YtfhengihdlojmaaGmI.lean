/-
  The document's net: Ready.
-/
import Derived.Test.YtfhengihdlojmaaGmH
import Derived.BigQuiet
namespace Go.Proofs.Ytfhengihdlojmaa
open Go.RowKit

namespace Gm
def rdy (cs : List Wy) (l : List Msg) : List Int := (l.filter fun x => !isCut x.fr x.to cs).map Msg.id
theorem rdy_len (cs : List Wy) (l : List Msg) : (rdy cs l).length ≤ l.length := by
  unfold rdy
  rw [List.length_map]
  exact List.length_filter_le ..
theorem rdy_snoc (cs : List Wy) (l : List Msg) (x : Msg) : rdy cs (l ++ [x]) = rdy cs l ++ if isCut x.fr x.to cs = true then [] else [x.id] := by
  unfold rdy
  rw [List.filter_append, List.map_append]
  congr 1
  by_cases h : isCut x.fr x.to cs = true
  · rw [if_pos h, List.filter_cons_of_neg (by simpa using h)]
    rfl
  · rw [if_neg h, List.filter_cons_of_pos (by simpa using h)]
    rfl
theorem belDN {B : Nat} {a w : World} (h : Below B a w) (n : Nat) : Below B a (w.drewN n) := ⟨h.os, h.tape, h.output, h.size, h.block⟩
theorem ucells_snoc (l : List Int) (x : Int) : ucells (l ++ [x]) = ucells l ++ [.int .u64 x] := by
  unfold ucells
  rw [List.map_append]
  rfl
theorem u_info : (Try.prog.info? 28).map (fun i => (i.zero, i.size, i.bytes)) = some (some (.int .u64 0), 1, 8) := by kernel_rfl
/-- append(l, x), at a list of operations. -/
theorem upush {ops : Array Oper} {rest : List Oper} {oo : Oper} {a : Act} {U : World} {Q : Exit → Act → World → Prop} {T1 : TypeId} {base n b : Nat} {v : Value} {xs : List Value}
    (hrow : U.ownsRow base 28 1 v n xs) (hgd : oo.guard = none) (s x : Operand)
    (hop : oo.op = .call { callee := .builtin .append, args := #[s, x], argTypes := #[49, 49] }) (hs : a.eval s = v) (hx : a.eval x = .slice (some ⟨b, 0, none⟩) 1 1) (m : Int)
    (hb : U.heap[b]? = some (.cells #[.int .u64 m] T1 (0, 0))) (hn : n ≤ 100000) (hbase : base ≤ U.heap.size)
    (h : ∀ g cap w', w'.ownsRow base 28 1 (.slice (some ⟨g, 0, none⟩) (n + 1) cap) (n + 1) (xs ++ [.int .u64 m]) → U.grownBy w' v.ownBlock → (v.ownBlock = some g ∨ g = U.heap.size) → wpList Try.prog ops Q rest (a.put oo.dst (.slice (some ⟨g, 0, none⟩) (n + 1) cap)) w') :
    wpList Try.prog ops Q (oo :: rest) a U := by
  obtain ⟨i, hi, hz⟩ := Option.map_eq_some_iff.1 u_info
  simp only [Prod.mk.injEq] at hz
  obtain ⟨z1, z2, z3⟩ := hz
  refine wpList_append_lies _ hgd s x 49 hop base 28 i (.int .u64 0) 1 8 Try.underlying49 hi z1 z2 z3 rfl (by decide) v n xs hs hrow ⟨b, 0, none⟩ 1 1 [.int .u64 m] hx rfl
    (fun j u hu => World.news_of_block hb j u hu) (by simp [Value.oneCell']) (by decide) (by unfold maxLen; omega) (by omega) hbase U.heap.size rfl ?_
  intro g cap w' h1 h2 h3 _
  exact h g cap w' h1 h2 h3
end Gm

set_option maxRecDepth 20000 in
set_option maxHeartbeats 4000000 in
theorem nready {R : Nat} {v vc : Value} {last : Int} {l : List Gm.Msg} {cs : List Gm.Wy} {w : World} (h : Gm.DNet R v vc last l cs w) (hl : l.length ≤ 100000) (hcl : cs.length ≤ 100000) :
    Calls Try.prog 20 #[.pointer (some ⟨R, 0, none⟩)] w fun e w' => ∃ (A : Option Addr) (c : Nat), e = .returned (.slice A (Gm.rdy cs l).length c) ∧ w'.ownsRow w.heap.size 28 1 (.slice A (Gm.rdy cs l).length c) (Gm.rdy cs l).length (Gm.ucells (Gm.rdy cs l)) ∧ Below w.heap.size w w' := by
  have H := Lib.hid h
  obtain ⟨A1, n1, rfl⟩ := Gm.own_form h.row
  have HLI := Lib.hid (Gm.own_liesM h.row)
  clear h
  go_enter Try.func20, Try.ntmps20
  go_wp2_with fail
  go_loopw [3, 4] (fun s3 s4 wr => ∃ (i : Nat) (A2 : Option Addr) (c2 : Nat), i ≤ l.length ∧ s3 = .slice A2 (Gm.rdy cs (l.take i)).length c2 ∧ s4 = .int .i64 i ∧ Hid (wr.ownsRow w.heap.size 28 1 (.slice A2 (Gm.rdy cs (l.take i)).length c2) (Gm.rdy cs (l.take i)).length (Gm.ucells (Gm.rdy cs (l.take i))) ∧ Below w.heap.size w wr)) (fun _ s4 _ => l.length - (intOf s4).toNat)
  case atStart => exact ⟨0, none, 0, Nat.zero_le _, rfl, rfl, ⟨rfl, .inl ⟨rfl, rfl⟩⟩, Below.refl _ _⟩
  case round =>
    obtain ⟨i, A2, c2, hi, rfl, rfl, HS⟩ := hrel
    have c1 := (H.out.below HS.out.2).c1
    by_cases hlt : i < l.length
    · obtain ⟨p, rfl, hpb, hp0, hp1, hp2, hp3⟩ := Gm.at4 (HLI.out.below HS.out.2) hlt
      have k0 : (0 : Int) ≤ (i : Int) := by omega
      have k1 : (i : Int) < l.length := by omega
      have HSN : Hid (Gm.rdy cs (l.take (i + 1)) = Gm.rdy cs (l.take i) ++ if Gm.isCut l[i].fr l[i].to cs = true then [] else [l[i].id]) := by
        show _ = _
        rw [List.take_succ_eq_append_getElem hlt, Gm.rdy_snoc]
      have HLN : Hid ((Gm.rdy cs (l.take i)).length ≤ 100000) := by
        have h1 := Gm.rdy_len cs (l.take i)
        rw [List.length_take] at h1
        show _ ≤ _
        omega
      generalize Gm.rdy cs (l.take i) = L at HS HSN HLN ⊢
      generalize l[i] = x at hp0 hp1 hp2 hp3 HSN
      obtain ⟨xi, xf, xt, xs⟩ := x
      simp only [] at hp0 hp1 hp2 hp3
      have HIC : Hid (∀ q, Calls Try.prog 32 #[.pointer (some ⟨R, 0, none⟩), .int .i64 xf, .int .i64 xt] (wr.drewN q) fun e w' => e = .returned (.bool (Gm.isCut xf xt cs)) ∧ w' = wr.drewN q) :=
        fun q => (niscut ((H.out.below HS.out.2).below (Gm.belDN (Below.refl _ _) q)) hcl xf xt).mono fun _ _ h => ⟨h.1, h.2.symm⟩
      clear hp3 hpb hlt
      cases hic : Gm.isCut xf xt cs with
      | true =>
        rw [hic] at HIC
        have HN : Hid (Gm.rdy cs (l.take (i + 1)) = L) := by
          show _ = _
          rw [HSN.out, if_pos hic, List.append_nil]
        clear hic HSN
        go_wp2_with fail
        go_quiet ((go_at_call 32; exact Calls.quiet_of_same (HIC.out _)))
        have HS2 : Hid ((wr.drewN nq).ownsRow w.heap.size 28 1 (.slice A2 L.length c2) L.length (Gm.ucells L) ∧ Below w.heap.size w (wr.drewN nq)) := ⟨Gm.ownsKeep HS.out.1 (fun _ _ => rfl), HS.out.2.trans (Gm.belDN (Below.refl _ _) nq)⟩
        clear HS HIC hp0 hp1 hp2 c1
        go_wp2_with fail
        go_roundw
        case rel => exact ⟨i + 1, A2, c2, by omega, by rw [HN.out], by go_num, by rw [HN.out]; exact HS2.out⟩
        case measure => simp [intOf]; omega
      | false =>
        rw [hic] at HIC
        have HN : Hid (Gm.rdy cs (l.take (i + 1)) = L ++ [xi]) := by
          show _ = _
          rw [HSN.out, if_neg (by rw [hic]; simp)]
        clear hic HSN
        go_wp2_with fail
        go_quiet ((go_at_call 32; exact Calls.quiet_of_same (HIC.out _)))
        have HS2 : Hid ((wr.drewN nq).ownsRow w.heap.size 28 1 (.slice A2 L.length c2) L.length (Gm.ucells L) ∧ Below w.heap.size w (wr.drewN nq)) := ⟨Gm.ownsKeep HS.out.1 (fun _ _ => rfl), HS.out.2.trans (Gm.belDN (Below.refl _ _) nq)⟩
        have d1 : (wr.drewN nq).cell? ⟨R, 1, none⟩ = some (.slice (some p) l.length n1) := c1
        have dp : (wr.drewN nq).cell? (p.add (i * 4)) = some (.int .u64 xi) := hp0
        clear HS HIC hp0 hp1 hp2 c1
        generalize wr.drewN nq = V at HS2 d1 dp ⊢
        have hsz := HS2.out.2.size
        have hbA : Below V.heap.size V (V.alloc (.cells #[.int .u64 xi] 28)) := (Below.refl _ _).alloc (Nat.le_refl _) _
        have HOA : Hid ((V.alloc (.cells #[.int .u64 xi] 28)).ownsRow w.heap.size 28 1 (.slice A2 L.length c2) L.length (Gm.ucells L)) := Gm.ownsKeep HS2.out.1 (fun q hq => hbA.block q (HS2.out.1.lt q hq).2)
        have HBL : Hid ((V.alloc (.cells #[.int .u64 xi] 28)).heap[V.heap.size]? = some (.cells #[.int .u64 xi] 28 (0, 0))) := heap_alloc_new V _
        have HBB : Hid (Below w.heap.size w (V.alloc (.cells #[.int .u64 xi] 28))) := HS2.out.2.trans (hbA.mono hsz)
        have hszA := HBB.out.size
        clear HS2 hbA hsz
        go_wp2_with (refine Gm.at_appW rfl ?_; refine Gm.upush HOA.out rfl _ _ rfl rfl rfl xi HBL.out HLN.out hszA ?_; intro g cap w4 hown hgr hg)
        have HNW : Hid (w4.ownsRow w.heap.size 28 1 (.slice (some ⟨g, 0, none⟩) (L ++ [xi]).length cap) (L ++ [xi]).length (Gm.ucells (L ++ [xi])) ∧ Below w.heap.size w w4) := by
          refine ⟨?_, HBB.out.grown hgr hszA (fun q hq => (HOA.out.lt q hq).1)⟩
          rw [List.length_append, Gm.ucells_snoc]
          exact hown
        have hll : (L ++ [xi]).length = L.length + 1 := by rw [List.length_append]; rfl
        have HLL := Lib.hid hll
        clear hown hgr hg hll d1 dp
        go_wp2_with fail
        go_roundw
        case rel => exact ⟨i + 1, some ⟨g, 0, none⟩, cap, by omega, by rw [HN.out, HLL.out], by go_num, by rw [HN.out]; exact HNW.out⟩
        case measure => simp [intOf]; omega
    · have k1 : ¬ (i : Int) < (l.length : Int) := by omega
      have HTK : Hid (l.take i = l) := List.take_of_length_le (by omega)
      have HF := HS
      rw [HTK.out] at HF
      rw [HTK.out]
      clear hlt HS
      go_wp2_with fail
      go_ret
      exact ⟨A2, c2, rfl, HF.out⟩
end Go.Proofs.Ytfhengihdlojmaa
