/-
  slices.IndexFunc and DeleteFunc with Ready's test; Ready.
-/
import Derived.Test.YtfhengihdlojmaaPkC
import Derived.Lib.SliceRun
namespace Go.Proofs.Ytfhengihdlojmaa
open Go.RowKit Go.Shelf

namespace Gm
/-- Whether the message of a number is stopped. -/
def stopF (cs : List Wy) (l : List Msg) (x : Int) : Bool := match findM x l with
  | some m => isCut m.fr m.to cs
  | none => false
end Gm

set_option maxRecDepth 20000 in
set_option maxHeartbeats 2000000 in
theorem gpred {R B C : Nat} {last : Int} {l : List Gm.Msg} {cs : List Gm.Wy} {w : World} (h : Gm.PNet R B C last l cs w) (hg : Gm.Good last l) (hlast : last ≤ 1000000) (X : Nat) (hbox : w.heap[X]? = some (.cells #[.pointer (some ⟨R, 0, none⟩)] 25 (0, 0))) (x : Int) (hx : x ∈ Gm.ids l) :
    Calls Try.prog 36 #[.int .u64 x, .pointer (some ⟨X, 0, none⟩)] w fun e w' => e = .returned (.bool (Gm.stopF cs l x)) ∧ Below w.heap.size w w' := by
  obtain ⟨m, hm, rfl⟩ := List.mem_map.1 hx
  have hf := Gm.findM_some hg.1 hm
  have hid := hg.2.1 m hm
  have hpl := hg.2.2 m hm
  have hE : Gm.stopF cs l m.id = Gm.isCut m.fr m.to cs := by unfold Gm.stopF; rw [hf]
  have hd := h.below (below_drewN (Below.refl w.heap.size w) 1)
  have hl := hd.lookOn1 m.id (by omega) (by omega)
  rw [hf] at hl
  have HST := Lib.hid (gstopped hd m (Gm.plc_wf hpl.1) (Gm.plc_wf hpl.2.1))
  have hc : w.cell? ⟨X, 0, none⟩ = some (.pointer (some ⟨R, 0, none⟩)) := cell_of_row _ _ 0 _ _ _ hbox
  have c1 := h.c1
  have HB : Hid (Below w.heap.size w (w.drewN 1)) := below_drewN (Below.refl _ _) 1
  rw [hE]
  obtain ⟨mi, mf, mt, ms⟩ := m
  have hl2 : (Instr.lookup 53 (.map (some B)) (.int .u64 mi) false).run Try.prog w.drew = .ok (.agg #[.int .u64 mi, .int .i64 mf, .int .i64 mt, .string ms]) w.drew := hl
  have HST2 : Hid (Calls Try.prog 29 #[.pointer (some ⟨R, 0, none⟩), .agg #[.int .u64 mi, .int .i64 mf, .int .i64 mt, .string ms]] w.drew fun e w' => e = .returned (.bool (Gm.isCut mf mt cs)) ∧ Below w.heap.size w.drew w') := HST.out
  clear h hg hbox hx hm hf hid hpl hE hd hl HST
  go_enter Try.func36, Try.ntmps36
  go_wp2_with fail
  go_still_tail 7, (by kernel_rfl)
  go_wp2_with fail
  refine HST2.out.mono ?_
  rintro e w2 ⟨rfl, hb2⟩
  have HB2 : Hid (Below w.heap.size w w2) := HB.out.trans hb2
  clear hb2
  go_wp2_with fail
  go_ret
  exact ⟨rfl, HB2.out⟩

/-- The test's contract, where it may be asked. -/
def Gm.Asks (X : Nat) (p : Int → Bool) (xs : List Int) (w : World) : Prop := ∀ x ∈ xs, Calls Try.prog 36 #[.int .u64 x, .pointer (some ⟨X, 0, none⟩)] w fun e w' => e = .returned (.bool (p x)) ∧ Below w.heap.size w w'

set_option maxRecDepth 20000 in
set_option maxHeartbeats 2000000 in
theorem uindexF (xs : List Int) (A : Option Addr) (c X : Nat) (p : Int → Bool) (w : World) (hli : Lies w w.heap.size A (Gm.ucells xs)) (hn : xs.length ≤ 100000) (HP : ∀ W, Below w.heap.size w W → Gm.Asks X p xs W) :
    Calls Try.prog 38 #[.slice A xs.length c, .func (.func 36) #[] #[.pointer (some ⟨X, 0, none⟩)]] w fun e w' =>
      ((e = .returned (.int .i64 (-1)) ∧ ∀ x ∈ xs, p x = false) ∨ ∃ (k : Nat) (hk : k < xs.length), e = .returned (.int .i64 (k : Int)) ∧ p xs[k] = true ∧ ∀ x ∈ xs.take k, p x = false) ∧ Below w.heap.size w w' := by
  have HLI := Lib.hid hli
  have HPP := Lib.hid HP
  have HB0 : Hid (Below w.heap.size w w) := Below.refl _ _
  clear hli HP
  go_enter Try.func38, Try.ntmps38
  go_wp2_with fail
  go_loopw [8] (fun i wr => ∃ j : Nat, j ≤ xs.length ∧ i = .int .i64 j ∧ Hid (∀ x ∈ xs.take j, p x = false) ∧ Hid (Below w.heap.size w wr)) (fun i _ => xs.length - (intOf i).toNat)
  case atStart => exact ⟨0, Nat.zero_le _, rfl, (show Hid _ from fun x hx => by simp at hx), HB0⟩
  case round =>
    clear HB0
    obtain ⟨j, hj, rfl, HE, HB⟩ := hrel
    by_cases hlt : j < xs.length
    · obtain ⟨q, rfl, hpb, hp0⟩ := (HLI.out.below HB.out).at_ (Gm.ucells_at hlt)
      have k0 : (0 : Int) ≤ (j : Int) := by omega
      have k1 : (j : Int) < xs.length := by omega
      have HC := Lib.hid (HPP.out wr HB.out xs[j] (List.getElem_mem hlt))
      have HS : Hid (p xs[j] = false → ∀ x ∈ xs.take (j + 1), p x = false) := fun h x hx => by
        rw [List.take_succ_eq_append_getElem hlt] at hx
        rcases List.mem_append.1 hx with hx | hx
        · exact HE.out x hx
        · rw [List.mem_singleton.1 hx]; exact h
      have HT : Hid (p xs[j] = true → ∃ (k : Nat) (hk : k < xs.length), Ending.returned (.int .i64 (j : Int)) = .returned (.int .i64 (k : Int)) ∧ p xs[k] = true ∧ ∀ x ∈ xs.take k, p x = false) := fun h => ⟨j, hlt, rfl, h, HE.out⟩
      generalize hb : p xs[j] = b at HC HS HT
      generalize xs[j] = t at hp0 HC
      clear hb
      go_wp2_with fail
      refine HC.out.mono ?_
      rintro e w2 ⟨rfl, hb2⟩
      have HB2 : Hid (Below w.heap.size w w2) := HB.out.trans (hb2.mono HB.out.size)
      clear hb2 hp0
      cases b with
      | true =>
        have HT2 := Lib.hid (HT.out rfl)
        go_wp2_with fail
        go_ret
        exact ⟨.inr HT2.out, HB2.out⟩
      | false =>
        have HS2 := Lib.hid (HS.out rfl)
        go_wp2_with fail
        go_roundw
        case rel => exact ⟨j + 1, by omega, by go_num, HS2, HB2⟩
        case measure => simp [intOf]; omega
    · have k1 : ¬ ((j : Int) < xs.length) := by omega
      have HN : Hid (∀ x ∈ xs, p x = false) := by
        have := HE.out
        rwa [List.take_of_length_le (by omega)] at this
      go_wp2_with fail
      go_ret
      exact ⟨.inl ⟨rfl, HN.out⟩, HB.out⟩
end Go.Proofs.Ytfhengihdlojmaa
