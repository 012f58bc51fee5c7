/-
  Contracts of code.may, May: a program's form.
-/
import Derived.Test.YtaijafkfiogmlaaDoorCdG
namespace Go.Proofs.YtaijafkfiogmlaaDoor
open Go.RowKit

namespace Cd
theorem pok_iff (l : List Fm) : pok (fns l) = (decide (l.length ≤ 16) && l.all fun m => m.f.ok) := by
  unfold pok fns
  rw [List.length_map, List.all_map]
  rfl
theorem ksCell {W V : World} {B n X : Nat} {v : Value} {T : TypeId} (hk : KS W.drew B n V) (hF : W.heap[X]? = some (.cells #[v] T (0, 0))) : V.cell? ⟨X, 0, none⟩ = some v :=
  cell_of_row _ _ 0 _ _ _ ((hk.bel.block X (ltH hF)).trans hF)
theorem belCell {W V : World} {X : Nat} {v : Value} {T : TypeId} (hb : Below W.heap.size W V) (hF : W.heap[X]? = some (.cells #[v] T (0, 0))) : V.cell? ⟨X, 0, none⟩ = some v :=
  cell_of_row _ _ 0 _ _ _ ((hb.block X (ltH hF)).trans hF)
end Cd

set_option maxHeartbeats 400000 in
set_option maxRecDepth 20000 in
theorem cmay1 (m : Cd.Fm) (hR : m.f.Rng) (X B : Nat) (w : World) (hm : Cd.TB w X B) (hli : Lies w w.heap.size m.A (Cd.ocells m.f.ops)) :
    Calls Tryd.prog 65 #[.agg #[.int .i64 m.f.args, .int .i64 m.f.regs, .slice m.A m.f.ops.length m.c], .pointer (some ⟨X, 0, none⟩)] w fun e w' => e = .returned (.bool (!m.f.ok)) ∧ Below w.heap.size w w' := by
  obtain ⟨W, hW⟩ : ∃ W, W = w.alloc (.cells #[.int .i64 m.f.args, .int .i64 m.f.regs, .slice m.A m.f.ops.length m.c] 26) := ⟨_, rfl⟩
  have hb : Below w.heap.size w W := by rw [hW]; exact Cd.fn1 _ _ _
  have hF : W.heap[w.heap.size]? = some (.cells #[.int .i64 m.f.args, .int .i64 m.f.regs, .slice m.A m.f.ops.length m.c] 26 (0, 0)) := by rw [hW]; exact heap_alloc_new w _
  have HB := Lib.hid hb
  have HC := Lib.hid (cmayHave m hR B W (hm.below hb).t ((hli.below hb).mono hb.size))
  have cX := (hm.below hb).c
  have f0 : W.cell? ⟨w.heap.size, 0, none⟩ = some (.int .i64 m.f.args) := cell_of_row _ _ 0 _ _ _ hF
  have f1 : W.cell? ⟨w.heap.size, 1, none⟩ = some (.int .i64 m.f.regs) := cell_of_row _ _ 1 _ _ _ hF
  have f2 : W.cell? ⟨w.heap.size, 2, none⟩ = some (.slice m.A m.f.ops.length m.c) := cell_of_row _ _ 2 _ _ _ hF
  clear hm hb hF hR hli
  go_enter Tryd.func65, Tryd.ntmps65
  go_upto_region 1 with fail
  rw [← hW]
  clear hW
  go_wp2_with fail
  refine HC.out.mono ?_
  rintro e w2 ⟨rfl, hb2⟩
  have HB2 : Hid (Below w.heap.size w w2) := HB.out.trans (hb2.mono HB.out.size)
  clear hb2
  go_wp2_with fail
  go_ret
  exact ⟨rfl, HB2.out⟩

set_option maxHeartbeats 400000 in
set_option maxRecDepth 20000 in
theorem cidxfn (l : List Cd.Fm) (hR : ∀ m ∈ l, m.f.Rng) (A : Option Addr) (c X B : Nat) (w : World) (hn : l.length ≤ 1000000) (hm : Cd.TB w X B) (hP : Cd.Prog w w.heap.size A l) :
    Calls Tryd.prog 70 #[.slice A l.length c, .func (.func 65) #[] #[.pointer (some ⟨X, 0, none⟩)]] w fun e w' => ∃ i : Int, e = .returned (.int .i64 i) ∧ decide (0 ≤ i) = !(l.all fun m => m.f.ok) ∧ Below w.heap.size w w' := by
  have HP := Lib.hid hP
  have HM := Lib.hid hm
  have HR := Lib.hid hR
  clear hP hm hR
  go_enter Tryd.func70, Tryd.ntmps70
  go_wp2_with fail
  go_loopw [8] (fun i wr => ∃ k : Nat, k ≤ l.length ∧ i = .int .i64 k ∧ Hid ((l.take k).all (fun m => m.f.ok) = true) ∧ Hid (Below w.heap.size w wr)) (fun i _ => l.length - (intOf i).toNat)
  case atStart => exact ⟨0, Nat.zero_le _, rfl, rfl, Below.refl _ _⟩
  case round =>
    obtain ⟨k, hk, rfl, HN, HB⟩ := hrel
    by_cases hlt : k < l.length
    · have hPB := HP.out.below HB.out
      obtain ⟨ad, rfl, hadb, c0, c1, c2⟩ := Cd.fn_at hPB.fs hlt
      have k0 : (0 : Int) ≤ (k : Int) := by omega
      have k1 : (k : Int) < l.length := by omega
      have HME := Lib.hid (List.getElem_mem hlt)
      have HT := Lib.hid (List.take_succ_eq_append_getElem hlt)
      have HC := Lib.hid (cmay1 l[k] (HR.out _ HME.out) X B wr (HM.out.below HB.out) ((hPB.os _ HME.out).mono HB.out.size))
      generalize l[k] = m at c0 c1 c2 HME HT HC
      clear hadb hlt hPB
      cases he : m.f.ok
      · have HD : Hid ((l.all fun m => m.f.ok) = false) := by
          show _ = _
          rw [List.all_eq_false]
          exact ⟨m, HME.out, by rw [he]; decide⟩
        rw [he] at HC
        clear he
        go_wp2_with fail
        refine HC.out.mono ?_
        rintro e w2 ⟨rfl, hb2⟩
        have HB2 : Hid (Below w.heap.size w w2) := HB.out.trans (hb2.mono HB.out.size)
        clear hb2
        go_wp2_with fail
        go_ret
        exact ⟨k, rfl, by rw [HD.out]; simp, HB2.out⟩
      · rw [he] at HC
        have HE := Lib.hid he
        clear he
        go_wp2_with fail
        refine HC.out.mono ?_
        rintro e w2 ⟨rfl, hb2⟩
        have HB2 : Hid (Below w.heap.size w w2) := HB.out.trans (hb2.mono HB.out.size)
        clear hb2
        go_wp2_with fail
        go_roundw
        case rel => exact ⟨k + 1, by omega, by go_num, by show _ = _; rw [HT.out, List.all_append, HN.out]; simp [HE.out], HB2.out⟩
        case measure => simp [intOf]; omega
    · have HD : Hid ((l.all fun m => m.f.ok) = true) := by
        show _ = _
        rw [← HN.out, List.take_of_length_le (by omega)]
      have k1 : ¬ ((k : Int) < l.length) := by omega
      go_wp2_with fail
      go_ret
      exact ⟨-1, rfl, by rw [HD.out]; decide, HB.out⟩

set_option maxHeartbeats 400000 in
set_option maxRecDepth 20000 in
theorem ccontfn (l : List Cd.Fm) (hR : ∀ m ∈ l, m.f.Rng) (A : Option Addr) (c X B : Nat) (w : World) (hn : l.length ≤ 1000000) (hm : Cd.TB w X B) (hP : Cd.Prog w w.heap.size A l) :
    Calls Tryd.prog 64 #[.slice A l.length c, .func (.func 65) #[] #[.pointer (some ⟨X, 0, none⟩)]] w fun e w' => e = .returned (.bool (!(l.all fun m => m.f.ok))) ∧ Below w.heap.size w w' := by
  have HI := Lib.hid (cidxfn l hR A c X B w hn hm hP)
  clear hP hn hR hm
  go_enter Tryd.func64, Tryd.ntmps64
  go_wp2_with fail
  refine HI.out.mono ?_
  rintro e w1 ⟨i, rfl, hi, hb⟩
  have HB := Lib.hid hb
  clear hb
  go_wp2_with fail
  go_ret
  exact ⟨by rw [← hi]; rfl, HB.out⟩

set_option maxHeartbeats 600000 in
set_option maxRecDepth 20000 in
theorem cmay (l : List Cd.Fm) (hR : ∀ m ∈ l, m.f.Rng) (hn : l.length ≤ maxLen) (A : Option Addr) (c B : Nat) (w : World) (hm : Cd.Tbl w B) (hP : Cd.Prog w w.heap.size A l) :
    Calls Tryd.prog 60 #[.map (some B), .agg #[.slice A l.length c]] w fun e w' => e = .returned (.bool (Cd.pok (Cd.fns l))) ∧ Below w.heap.size w w' := by
  unfold maxLen at hn
  obtain ⟨V, hV⟩ : ∃ V, V = w.alloc (.cells #[.map (some B)] 127) := ⟨_, rfl⟩
  have hVs : V.heap.size = w.heap.size + 1 := by rw [hV]; simp
  obtain ⟨W, hW⟩ : ∃ W, W = V.alloc (.cells #[.slice A l.length c] 29) := ⟨_, rfl⟩
  have hb1 : Below w.heap.size w V := by rw [hV]; exact Cd.fn1 _ _ _
  have hb2 : Below V.heap.size V W := by rw [hW]; exact Cd.fn1 _ _ _
  have hb : Below w.heap.size w W := hb1.trans (hb2.mono hb1.size)
  have hX : W.heap[w.heap.size]? = some (.cells #[.map (some B)] 127 (0, 0)) := by
    rw [hb2.block _ (by rw [hVs]; omega), hV]
    exact heap_alloc_new w _
  have hF : W.heap[w.heap.size + 1]? = some (.cells #[.slice A l.length c] 29 (0, 0)) := by
    rw [← hVs, hW]
    exact heap_alloc_new V _
  have HB := Lib.hid hb
  have HTB : Hid (Cd.TB W w.heap.size B) := ⟨hX, Gm.MapF.below hm hb⟩
  have HP := Lib.hid ((hP.below hb).mono hb.size)
  have HR := Lib.hid hR
  have f0 : W.cell? ⟨w.heap.size + 1, 0, none⟩ = some (.slice A l.length c) := cell_of_row _ _ 0 _ _ _ hF
  have hmf : ∀ (fn : Fn) (first cap : Array Value) (w : World), (Instr.makeFunc fn first cap).run Tryd.prog w = .ok (.func fn first cap) w := fun _ _ _ _ => rfl
  have HPO := Lib.hid (Cd.pok_iff l)
  clear hb1 hb2 hb hX hF hm hP hR hVs
  go_enter Tryd.func60, Tryd.ntmps60
  go_upto_region 1 with fail
  rw [← hV, ← hW]
  clear hW hV
  by_cases h16 : 16 < l.length
  · have HE : Hid (Cd.pok (Cd.fns l) = false) := by show _ = _; rw [HPO.out, decide_eq_false (by omega)]; rfl
    have h16i : (16 : Int) < l.length := by omega
    clear h16
    go_wp2_with fail
    go_ret
    exact ⟨by rw [HE.out]; rfl, HB.out⟩
  · have HE : Hid (Cd.pok (Cd.fns l) = l.all fun m => m.f.ok) := by show _ = _; rw [HPO.out, decide_eq_true (by omega)]; rfl
    have h16i : ¬ (16 : Int) < l.length := by omega
    have HCO := Lib.hid (ccontfn l HR.out A c w.heap.size B W (by omega) HTB.out HP.out)
    clear h16
    go_wp2_with fail
    refine HCO.out.mono ?_
    rintro e w2 ⟨rfl, hb2⟩
    have HB2 : Hid (Below w.heap.size w w2) := HB.out.trans (hb2.mono HB.out.size)
    clear hb2
    go_wp2_with fail
    go_ret
    refine ⟨?_, HB2.out⟩
    rw [HE.out]
    cases (l.all fun m => m.f.ok) <;> rfl

set_option maxHeartbeats 600000 in
set_option maxRecDepth 20000 in
theorem cMay (l : List Cd.Fm) (hR : ∀ m ∈ l, m.f.Rng) (hn : l.length ≤ maxLen) (A : Option Addr) (c : Nat) (w : World) (hP : Cd.Prog w w.heap.size A l) :
    Calls Tryd.prog 51 #[.agg #[.slice A l.length c]] w fun e w' => e = .returned (.bool (Cd.pok (Cd.fns l))) ∧ Below w.heap.size w w' := by
  obtain ⟨W, hW⟩ : ∃ W, W = w.alloc (.cells #[.slice A l.length c] 29) := ⟨_, rfl⟩
  have hb : Below w.heap.size w W := by rw [hW]; exact Cd.fn1 _ _ _
  have hF : W.heap[w.heap.size]? = some (.cells #[.slice A l.length c] 29 (0, 0)) := by rw [hW]; exact heap_alloc_new w _
  have HB := Lib.hid hb
  have HCM : Hid (∀ B V, Cd.KS W.drew B 14 V → Calls Tryd.prog 60 #[.map (some B), .agg #[.slice A l.length c]] V fun e w' => e = .returned (.bool (Cd.pok (Cd.fns l))) ∧ Below W.heap.size W w') := fun B V hk => by
    have hbd : Below W.heap.size W V := (Below.refl _ _).drew.trans hk.bel
    refine (cmay l hR hn A c B V hk.m ((hP.below (hb.trans (hbd.mono hb.size))).mono (hb.trans (hbd.mono hb.size)).size)).mono ?_
    rintro e w' ⟨he, hb2⟩
    exact ⟨he, hbd.trans (hb2.mono hbd.size)⟩
  have HF := Lib.hid hF
  clear hb hF hR hP
  go_enter Tryd.func51, Tryd.ntmps51
  go_upto_region 1 with fail
  rw [← hW]
  clear hW
  go_region_held3 (fun w' : World => w'.cell? ⟨w.heap.size, 0, none⟩ = some (.slice A l.length c)) (first | assumption | exact cell_of_row _ _ 0 _ _ _ HF.out | exact Cd.ksCell (by assumption) HF.out | exact Cd.belCell (by assumption) HF.out)
    (first
      | (go_at_call 59; refine (ckinds _).mono ?_; rintro e w2 ⟨B, rfl, hk⟩)
      | (go_at_call 60; refine (HCM.out _ _ (by assumption)).mono ?_; rintro e w3 ⟨rfl, hb3⟩))
  all_goals
    go_wp2_with fail
    go_ret
    exact ⟨rfl, HB.out.trans (Below.mono (by assumption) HB.out.size)⟩
end Go.Proofs.YtaijafkfiogmlaaDoor
