/-
  Contracts of code.mayHave, may, May: a program's form.
-/
import Derived.Test.YtaijafkfiogmlaaDoorCdF
namespace Go.Proofs.YtaijafkfiogmlaaDoor
open Go.RowKit

namespace Cd
theorem fn1 (w : World) (cs : Array Value) (T : TypeId) : Below w.heap.size w (w.alloc (.cells cs T)) := (Below.refl _ _).alloc (Nat.le_refl _) _
/-- Block X holds the table's map, block B is the table. -/
structure TB (w : World) (X B : Nat) : Prop where
  x : w.heap[X]? = some (.cells #[.map (some B)] 127 (0, 0))
  t : Tbl w B
theorem TB.below {w w' : World} {X B : Nat} (h : TB w X B) (hb : Below w.heap.size w w') : TB w' X B := ⟨(hb.block _ (ltH h.x)).trans h.x, Gm.MapF.below h.t hb⟩
theorem TB.c {w : World} {X B : Nat} (h : TB w X B) : w.cell? ⟨X, 0, none⟩ = some (.map (some B)) := cell_of_row _ _ 0 _ _ _ h.x
end Cd

set_option maxHeartbeats 400000 in
set_option maxRecDepth 20000 in
theorem cmayHave1 (o : Cd.OpV) (hR : o.Rng) (X B : Nat) (w : World) (hm : Cd.TB w X B) :
    Calls Tryd.prog 73 #[.agg #[.int .u8 (o.k : Int), .int .i64 o.d, .int .i64 o.a, .int .i64 o.b, .int .i64 o.n], .pointer (some ⟨X, 0, none⟩)] w fun e w' => e = .returned (.bool (!o.ok)) ∧ Below w.heap.size w w' := by
  obtain ⟨W, hW⟩ : ∃ W, W = w.alloc (.cells #[.int .u8 (o.k : Int), .int .i64 o.d, .int .i64 o.a, .int .i64 o.b, .int .i64 o.n] 23) := ⟨_, rfl⟩
  have hb : Below w.heap.size w W := by rw [hW]; exact Cd.fn1 _ _ _
  have hO : Cd.OB W w.heap.size o := by show W.heap[w.heap.size]? = _; rw [hW]; exact heap_alloc_new w _
  have HB := Lib.hid hb
  have HC := Lib.hid (cmayDo o hR B W (hm.below hb).t)
  have cX := (hm.below hb).c
  obtain ⟨c0, c1, c2, c3, c4⟩ := hO.cells
  clear hm hb hO hR
  go_enter Tryd.func73, Tryd.ntmps73
  go_upto_region 1 with fail
  rw [← hW]
  clear hW
  go_wp2_with fail
  refine HC.out.mono ?_
  rintro e w2 ⟨rfl, hb2⟩
  have HB2 : Hid (Below w.heap.size w w2) := HB.out.trans (hb2.mono HB.out.size)
  clear hb2
  go_wp2_with fail
  go_ret
  exact ⟨rfl, HB2.out⟩

set_option maxHeartbeats 400000 in
set_option maxRecDepth 20000 in
theorem cidxop (l : List Cd.OpV) (hR : ∀ o ∈ l, o.Rng) (A : Option Addr) (c X B : Nat) (w : World) (hn : l.length ≤ 1000000) (hm : Cd.TB w X B) (hli : Lies w w.heap.size A (Cd.ocells l)) :
    Calls Tryd.prog 80 #[.slice A l.length c, .func (.func 73) #[] #[.pointer (some ⟨X, 0, none⟩)]] w fun e w' => ∃ i : Int, e = .returned (.int .i64 i) ∧ decide (0 ≤ i) = !l.all Cd.OpV.ok ∧ Below w.heap.size w w' := by
  have HL := Lib.hid hli
  have HM := Lib.hid hm
  have HR := Lib.hid hR
  clear hli hm hR
  go_enter Tryd.func80, Tryd.ntmps80
  go_wp2_with fail
  go_loopw [8] (fun i wr => ∃ k : Nat, k ≤ l.length ∧ i = .int .i64 k ∧ Hid ((l.take k).all Cd.OpV.ok = true) ∧ Hid (Below w.heap.size w wr)) (fun i _ => l.length - (intOf i).toNat)
  case atStart => exact ⟨0, Nat.zero_le _, rfl, rfl, Below.refl _ _⟩
  case round =>
    obtain ⟨k, hk, rfl, HN, HB⟩ := hrel
    by_cases hlt : k < l.length
    · obtain ⟨ad, rfl, hadb, c0, c1, c2, c3, c4⟩ := Cd.op_at (HL.out.below HB.out) hlt
      have k0 : (0 : Int) ≤ (k : Int) := by omega
      have k1 : (k : Int) < l.length := by omega
      have HME := Lib.hid (List.getElem_mem hlt)
      have HT := Lib.hid (List.take_succ_eq_append_getElem hlt)
      have HC := Lib.hid (cmayHave1 l[k] (HR.out _ HME.out) X B wr (HM.out.below HB.out))
      generalize l[k] = o at c0 c1 c2 c3 c4 HME HT HC
      clear hadb hlt
      cases he : o.ok
      · have HD : Hid (l.all Cd.OpV.ok = false) := by
          show _ = _
          rw [List.all_eq_false]
          exact ⟨o, HME.out, by rw [he]; decide⟩
        rw [he] at HC
        clear he
        go_wp2_with fail
        refine HC.out.mono ?_
        rintro e w2 ⟨rfl, hb2⟩
        have HB2 : Hid (Below w.heap.size w w2) := HB.out.trans (hb2.mono HB.out.size)
        clear hb2
        go_wp2_with fail
        go_ret
        exact ⟨k, rfl, by rw [HD.out]; simp, HB2.out⟩
      · rw [he] at HC
        have HE := Lib.hid he
        clear he
        go_wp2_with fail
        refine HC.out.mono ?_
        rintro e w2 ⟨rfl, hb2⟩
        have HB2 : Hid (Below w.heap.size w w2) := HB.out.trans (hb2.mono HB.out.size)
        clear hb2
        go_wp2_with fail
        go_roundw
        case rel => exact ⟨k + 1, by omega, by go_num, by show _ = _; rw [HT.out, List.all_append, HN.out]; simp [HE.out], HB2.out⟩
        case measure => simp [intOf]; omega
    · have HD : Hid (l.all Cd.OpV.ok = true) := by
        show _ = _
        rw [← HN.out, List.take_of_length_le (by omega)]
      have k1 : ¬ ((k : Int) < l.length) := by omega
      go_wp2_with fail
      go_ret
      exact ⟨-1, rfl, by rw [HD.out]; decide, HB.out⟩

set_option maxHeartbeats 400000 in
set_option maxRecDepth 20000 in
theorem ccontop (l : List Cd.OpV) (hR : ∀ o ∈ l, o.Rng) (A : Option Addr) (c X B : Nat) (w : World) (hn : l.length ≤ 1000000) (hm : Cd.TB w X B) (hli : Lies w w.heap.size A (Cd.ocells l)) :
    Calls Tryd.prog 72 #[.slice A l.length c, .func (.func 73) #[] #[.pointer (some ⟨X, 0, none⟩)]] w fun e w' => e = .returned (.bool (!l.all Cd.OpV.ok)) ∧ Below w.heap.size w w' := by
  have HI := Lib.hid (cidxop l hR A c X B w hn hm hli)
  clear hli hn hR hm
  go_enter Tryd.func72, Tryd.ntmps72
  go_wp2_with fail
  refine HI.out.mono ?_
  rintro e w1 ⟨i, rfl, hi, hb⟩
  have HB := Lib.hid hb
  clear hb
  go_wp2_with fail
  go_ret
  exact ⟨by rw [← hi]; rfl, HB.out⟩

set_option maxHeartbeats 600000 in
set_option maxRecDepth 20000 in
theorem cmayHave (m : Cd.Fm) (hR : m.f.Rng) (B : Nat) (w : World) (hm : Cd.Tbl w B) (hli : Lies w w.heap.size m.A (Cd.ocells m.f.ops)) :
    Calls Tryd.prog 66 #[.map (some B), .agg #[.int .i64 m.f.args, .int .i64 m.f.regs, .slice m.A m.f.ops.length m.c]] w fun e w' => e = .returned (.bool m.f.ok) ∧ Below w.heap.size w w' := by
  have hlen := hR.len
  unfold maxLen at hlen
  obtain ⟨V, hV⟩ : ∃ V, V = w.alloc (.cells #[.map (some B)] 127) := ⟨_, rfl⟩
  have hVs : V.heap.size = w.heap.size + 1 := by rw [hV]; simp
  obtain ⟨W, hW⟩ : ∃ W, W = V.alloc (.cells #[.int .i64 m.f.args, .int .i64 m.f.regs, .slice m.A m.f.ops.length m.c] 26) := ⟨_, rfl⟩
  have hb1 : Below w.heap.size w V := by rw [hV]; exact Cd.fn1 _ _ _
  have hb2 : Below V.heap.size V W := by rw [hW]; exact Cd.fn1 _ _ _
  have hb : Below w.heap.size w W := hb1.trans (hb2.mono hb1.size)
  have hX : W.heap[w.heap.size]? = some (.cells #[.map (some B)] 127 (0, 0)) := by
    rw [hb2.block _ (by rw [hVs]; omega), hV]
    exact heap_alloc_new w _
  have hF : W.heap[w.heap.size + 1]? = some (.cells #[.int .i64 m.f.args, .int .i64 m.f.regs, .slice m.A m.f.ops.length m.c] 26 (0, 0)) := by
    rw [← hVs, hW]
    exact heap_alloc_new V _
  have HB := Lib.hid hb
  have HTB : Hid (Cd.TB W w.heap.size B) := ⟨hX, Gm.MapF.below hm hb⟩
  have HL := Lib.hid ((hli.below hb).mono hb.size)
  have HR := Lib.hid hR.ops
  have f0 : W.cell? ⟨w.heap.size + 1, 0, none⟩ = some (.int .i64 m.f.args) := cell_of_row _ _ 0 _ _ _ hF
  have f1 : W.cell? ⟨w.heap.size + 1, 1, none⟩ = some (.int .i64 m.f.regs) := cell_of_row _ _ 1 _ _ _ hF
  have f2 : W.cell? ⟨w.heap.size + 1, 2, none⟩ = some (.slice m.A m.f.ops.length m.c) := cell_of_row _ _ 2 _ _ _ hF
  have hWs : W.heap.size = w.heap.size + 1 + 1 := by rw [hW]; simp [hVs]
  have HSM : Hid (Calls Tryd.prog 71 #[.slice (some ⟨w.heap.size + 1 + 1, 0, none⟩) 2 2] (W.alloc (.cells #[.int .i64 m.f.args, .int .i64 m.f.regs] 3)) fun e w' => e = .returned (.bool ([m.f.args, m.f.regs].all Cd.reg)) ∧ W.alloc (.cells #[.int .i64 m.f.args, .int .i64 m.f.regs] 3) = w') :=
    csmall [m.f.args, m.f.regs] (some ⟨w.heap.size + 1 + 1, 0, none⟩) 2 _ (by simp) (by have := lies_new W #[.int .i64 m.f.args, .int .i64 m.f.regs] 3 (icells [m.f.args, m.f.regs]) rfl; rw [hWs] at this; exact this)
  have g2 : (W.alloc (.cells #[.int .i64 m.f.args, .int .i64 m.f.regs] 3)).cell? ⟨w.heap.size + 1, 2, none⟩ = some (.slice m.A m.f.ops.length m.c) := cell_of_row _ _ 2 _ _ _ (((Cd.fn1 W _ _).block _ (Cd.ltH hF)).trans hF)
  have HBV : Hid (Below w.heap.size w (W.alloc (.cells #[.int .i64 m.f.args, .int .i64 m.f.regs] 3))) := hb.trans ((Cd.fn1 W _ _).mono hb.size)
  have hmf : ∀ (fn : Fn) (first cap : Array Value) (w : World), (Instr.makeFunc fn first cap).run Tryd.prog w = .ok (.func fn first cap) w := fun _ _ _ _ => rfl
  clear hb1 hb2 hb hX hF hm hli hR hVs
  go_enter Tryd.func66, Tryd.ntmps66
  go_upto_region 1 with fail
  rw [← hV, ← hW]
  clear hW hV
  go_wp2_with fail
  cases hS : (Cd.reg m.f.args && Cd.reg m.f.regs) with
  | false =>
    have HE : Hid (m.f.ok = false) := by show _ = _; unfold Cd.FnV.ok; rw [hS]; simp
    have HA : [m.f.args, m.f.regs].all Cd.reg = false := by rw [← hS]; simp
    rw [HA] at HSM
    clear hS HA
    refine HSM.out.mono ?_
    rintro e w' ⟨rfl, rfl⟩
    go_wp2_with fail
    go_ret
    exact ⟨by rw [HE.out]; rfl, HBV.out⟩
  | true =>
    have HA : [m.f.args, m.f.regs].all Cd.reg = true := by rw [← hS]; simp
    rw [HA] at HSM
    refine HSM.out.mono ?_
    rintro e w' ⟨rfl, rfl⟩
    by_cases h64 : 64 < m.f.ops.length
    · have HE : Hid (m.f.ok = false) := by show _ = _; unfold Cd.FnV.ok; simp; intros; omega
      have h64i : (64 : Int) < m.f.ops.length := by omega
      clear hS HA h64
      go_wp2_with fail
      go_ret
      exact ⟨by rw [HE.out]; rfl, HBV.out⟩
    · have HE : Hid (m.f.ok = m.f.ops.all Cd.OpV.ok) := by
        show _ = _
        unfold Cd.FnV.ok
        rw [hS, decide_eq_true (by omega : m.f.ops.length ≤ 64)]
        rfl
      have h64i : ¬ (64 : Int) < m.f.ops.length := by omega
      have HCO := Lib.hid (ccontop m.f.ops HR.out m.A m.c w.heap.size B _ (by omega) (HTB.out.below (Cd.fn1 W #[.int .i64 m.f.args, .int .i64 m.f.regs] 3)) ((HL.out.below (Cd.fn1 W _ _)).mono (Cd.fn1 W _ _).size))
      clear hS HA h64
      go_wp2_with fail
      refine HCO.out.mono ?_
      rintro e w2 ⟨rfl, hb2⟩
      have HB2 : Hid (Below w.heap.size w w2) := HBV.out.trans (hb2.mono HBV.out.size)
      clear hb2
      go_wp2_with fail
      go_ret
      refine ⟨?_, HB2.out⟩
      rw [HE.out]
      cases m.f.ops.all Cd.OpV.ok <;> rfl
end Go.Proofs.YtaijafkfiogmlaaDoor
