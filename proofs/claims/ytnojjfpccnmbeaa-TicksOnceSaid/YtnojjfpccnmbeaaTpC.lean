/-
  The program's queue: put, Swap.
-/
import Derived.Test.YtnojjfpccnmbeaaTpB
namespace Go.Proofs.Ytnojjfpccnmbeaa
open Go.RowKit

namespace Tk
theorem add0 (g k : Nat) : (⟨g, 0, none⟩ : Addr).add k = ⟨g, k, none⟩ := by rw [Addr.add_mid, Nat.zero_add]
theorem tks_set (l : List Tm) (i : Nat) (x : Tm) : tks (l.set i x) = ((tks l).set (i * 2) (.string x.1)).set (i * 2 + 1) (.int .i64 x.2) := by
  induction l generalizing i with
  | nil => rfl
  | cons y l ih =>
    cases i with
    | zero => rfl
    | succ i =>
      rw [List.set_cons_succ, tks_cons, tks_cons, ih, show (i + 1) * 2 = i * 2 + 1 + 1 by omega]
      rfl
theorem row_set {w : World} {g n cap i : Nat} {l : List Tm} {k : ByteArray} {a : Int} (h : w.ownsRow 0 42 2 (.slice (some ⟨g, 0, none⟩) n cap) n (tks l)) :
    ((w.setCell ⟨g, i * 2, none⟩ (.string k)).setCell ⟨g, i * 2 + 1, none⟩ (.int .i64 a)).ownsRow 0 42 2 (.slice (some ⟨g, 0, none⟩) n cap) n (tks (l.set i (k, a))) := by
  rw [tks_set]
  exact ((h.stored _ _).1.stored _ _).1
/-- One timer of the queue's row, where it may be written. -/
theorem QRaw.at2 {Q B m : Nat} {v : Value} {l : List Tm} {f : ByteArray → Option Int} {w : World} (h : QRaw Q B v l f m w) {i : Nat} (hi : i < l.length) : ∃ p g n, v = .slice (some p) l.length n ∧ p = ⟨g, 0, none⟩ ∧ l.length ≤ n ∧ (p.add (i * 2)).block < w.heap.size ∧ (p.add (i * 2)).block ≠ Q ∧ (p.add (i * 2)).block ≠ B ∧
    w.cell? (p.add (i * 2)) = some (.string l[i].1) ∧ w.cell? ⟨(p.add (i * 2)).block, (p.add (i * 2)).off + 1, none⟩ = some (.int .i64 l[i].2) ∧
    w.frozen? (p.add (i * 2)) = false ∧ w.frozen? ⟨(p.add (i * 2)).block, (p.add (i * 2)).off + 1, none⟩ = false := by
  obtain ⟨g, n, rfl, hn⟩ := h.form2 (by omega)
  obtain ⟨p, e, hpb, h0, h1⟩ := Tk.at2 (own_lies h.row) hi
  have e2 : p = ⟨g, 0, none⟩ := (Option.some.inj e).symm
  refine ⟨p, g, n, by rw [e2], e2, hn, by rw [Lies.add_block]; exact hpb, ?_, ?_, h0, h1, ?_, ?_⟩
  · rw [Lies.add_block, e2]; exact fun e => h.neQ (by rw [← e]; rfl)
  · rw [Lies.add_block, e2]; exact fun e => h.neB (by rw [← e]; rfl)
  · rw [e2, add0]; exact h.row.frozenAt _
  · rw [e2, add0]; exact h.row.frozenAt _
/-- How many entries there are behind a store. -/
def mput (f : ByteArray → Option Int) (k : ByteArray) (m : Nat) : Nat := if (f k).isSome then m else m + 1
/-- A timer is written into the row. -/
theorem QRaw.set {Q B m : Nat} {g cap : Nat} {l : List Tm} {f : ByteArray → Option Int} {w : World} (h : QRaw Q B (.slice (some ⟨g, 0, none⟩) l.length cap) l f m w) (i : Nat) (k : ByteArray) (a : Int) :
    QRaw Q B (.slice (some ⟨g, 0, none⟩) l.length cap) (l.set i (k, a)) f m ((w.setCell ⟨g, i * 2, none⟩ (.string k)).setCell ⟨g, i * 2 + 1, none⟩ (.int .i64 a)) := by
  have hq : g ≠ Q := fun e => h.neQ (by rw [← e]; rfl)
  have hb : g ≠ B := fun e => h.neB (by rw [← e]; rfl)
  have hr := h.row
  have hk : ∀ j, j ≠ g → ((w.setCell ⟨g, i * 2, none⟩ (.string k)).setCell ⟨g, i * 2 + 1, none⟩ (.int .i64 a)).heap[j]? = w.heap[j]? := fun j hj => by
    rw [Below.heap_setCell _ _ _ _ hj, Below.heap_setCell _ _ _ _ hj]
  refine ⟨(hk _ hq.symm).trans h.obj, ?_, h.mp.of_block (hk _ hb.symm), h.neQ, h.neB, h.QB⟩
  rw [List.length_set]
  exact row_set hr
theorem moved_set {Q B : Nat} {v : Value} {w : World} {g : Nat} (hv : v.ownBlock = some g) (i j : Nat) (x y : Value) : Mvt (QOff Q B v) (QOff Q B v) w ((w.setCell ⟨g, i, none⟩ x).setCell ⟨g, j, none⟩ y) :=
  ⟨rfl, rfl, rfl, by simp [World.setCell], fun b _ ho => by
    have hb : b ≠ g := fun e => ho.2.2 (by rw [e]; exact hv.symm)
    rw [Below.heap_setCell _ _ _ _ hb, Below.heap_setCell _ _ _ _ hb], fun _ _ h => h⟩
theorem moved_map {Q B : Nat} {v : Value} {w w' : World} (hg : w.grownBy w' (some B)) : Mvt (QOff Q B v) (QOff Q B v) w w' :=
  ⟨hg.os, hg.tape, hg.output, hg.size, fun b hb ho => hg.block b hb (fun e => ho.2.1 (Option.some.inj e)), fun _ _ h => h⟩
end Tk

set_option maxRecDepth 20000 in
set_option maxHeartbeats 2000000 in
theorem qput {Q B m : Nat} {v : Value} {l : List Tk.Tm} {f : ByteArray → Option Int} {w : World} (h : Tk.QRaw Q B v l f m w) (hm : m ≤ 100000) (i : Nat) (hi : i < l.length) (hl : l.length ≤ 100000) (k : ByteArray) (a : Int) (hk : k.size ≤ maxLen) :
    Calls Try.prog 87 #[.pointer (some ⟨Q, 0, none⟩), .int .i64 (i : Int), .agg #[.string k, .int .i64 a]] w fun e w' => e = .returned (.tuple #[]) ∧
      Tk.QRaw Q B v (l.set i (k, a)) (Tk.upd f k (some (i : Int))) (Tk.mput f k m) w' ∧ Tk.Mvt (Tk.QOff Q B v) (Tk.QOff Q B v) w w' := by
  obtain ⟨p, g, n, rfl, hp, hn, hpb, hpQ, hpB, q0, q1, f0, f1⟩ := h.at2 hi
  have c0 := h.c0
  have hQ := Tk.ltHeap h.obj
  have hb0 : Below w.heap.size w (w.alloc (.cells #[.string k, .int .i64 a] 42)) := (Below.refl _ _).alloc (Nat.le_refl _) _
  have h1 := h.below hb0
  have hM1 : Tk.Mvt (Tk.QOff Q B (.slice (some p) l.length n)) (Tk.QOff Q B (.slice (some p) l.length n)) w (w.alloc (.cells #[.string k, .int .i64 a] 42)) := .of_below hb0
  have hp0 : p.add (i * 2) = ⟨g, i * 2, none⟩ := by rw [hp, Tk.add0]
  obtain ⟨W, hW⟩ : ∃ W, W = (((w.alloc (.cells #[.string k, .int .i64 a] 42)).setCell (p.add (i * 2)) (.string k)).setCell ⟨(p.add (i * 2)).block, (p.add (i * 2)).off + 1, none⟩ (.int .i64 a)).drew := ⟨_, rfl⟩
  have h2 : Tk.QRaw Q B (.slice (some p) l.length n) (l.set i (k, a)) f m W ∧ Tk.Mvt (Tk.QOff Q B (.slice (some p) l.length n)) (Tk.QOff Q B (.slice (some p) l.length n)) w W ∧ W.heap[w.heap.size]? = some (.cells #[.string k, .int .i64 a] 42 (0, 0)) := by
    rw [hW, hp0]
    simp only
    subst hp
    refine ⟨(h1.set i k a).below (below_drewN (Below.refl _ _) 1), ?_, ?_⟩
    · exact (hM1.trans (Tk.moved_set rfl _ _ _ _)).trans (.of_below (below_drewN (Below.refl _ _) 1))
    · have hgl : w.heap.size ≠ g := by have := (h.row.lt g rfl).2; omega
      show ((_ : World).setCell _ _).heap[w.heap.size]? = _
      rw [Below.heap_setCell _ _ _ _ hgl, Below.heap_setCell _ _ _ _ hgl]
      exact heap_alloc_new w _
  obtain ⟨h2, hM2, hx⟩ := h2
  have x0 : W.cell? ⟨w.heap.size, 0, none⟩ = some (.string k) := cell_of_row _ _ 0 _ _ _ hx
  generalize (l[i]).1 = o1 at q0
  generalize (l[i]).2 = o2 at q1
  have d1 := h2.c1
  obtain ⟨W2, hr, hmp, hgr⟩ := (h2.below (below_drewN (Below.refl _ _) 1)).mp.put Try.underlying3 Try.underlying56 (by unfold maxLen; omega) k hk (i : Int) (WalkArith.wf_i64 (by omega))
  have fa : (w.alloc (.cells #[.string k, .int .i64 a] 42)).frozen? (p.add (i * 2)) = false := (World.frozen?_of_block (hb0.block _ hpb)).trans f0
  have fb : (w.alloc (.cells #[.string k, .int .i64 a] 42)).frozen? ⟨(p.add (i * 2)).block, (p.add (i * 2)).off + 1, none⟩ = false := (World.frozen?_of_block (a := ⟨(p.add (i * 2)).block, (p.add (i * 2)).off + 1, none⟩) (hb0.block _ hpb)).trans f1
  have ga : ((w.alloc (.cells #[.string k, .int .i64 a] 42)).setCell (p.add (i * 2)) (.string k)).cell? ⟨(p.add (i * 2)).block, (p.add (i * 2)).off + 1, none⟩ = some (.int .i64 o2) := by
    rw [World.cell?_setCell_other (h := show (p.add (i * 2)) ≠ ⟨(p.add (i * 2)).block, (p.add (i * 2)).off + 1, none⟩ from fun e => by have := congrArg Addr.off e; simp at this), World.cell?_of_block (a := ⟨(p.add (i * 2)).block, (p.add (i * 2)).off + 1, none⟩) (hb0.block _ hpb)]
    exact q1
  have HR := Lib.hid hr
  have HE : Hid (Tk.QRaw Q B (.slice (some p) l.length n) (l.set i (k, a)) (Tk.upd f k (some (i : Int))) (Tk.mput f k m) W2 ∧ Tk.Mvt (Tk.QOff Q B (.slice (some p) l.length n)) (Tk.QOff Q B (.slice (some p) l.length n)) w W2) := by
    have h3 := h2.below (below_drewN (Below.refl _ _) 1)
    refine ⟨⟨?_, ?_, hmp, h3.neQ, h3.neB, h3.QB⟩, (hM2.trans (.of_below (below_drewN (Below.refl _ _) 1))).trans (Tk.moved_map hgr)⟩
    · rw [hgr.block _ (Tk.ltHeap h3.obj) (fun e => h3.QB (Option.some.inj e))]
      exact h3.obj
    · exact Tk.ownsKeep h3.row (fun j hj => hgr.block j (h3.row.lt j hj).2 (fun e => h3.neB (by rw [hj, e])))
  have i0 : (0 : Int) ≤ (i : Int) := by omega
  have i1 : (i : Int) < l.length := by omega
  have hQ2 : Q ≠ (p.add (i * 2)).block := fun e => hpQ e.symm
  clear hr hmp hgr h2 hM2 hx h1 hM1 hb0 hp0 hp h hi hl hm hk
  go_enter Try.func87, Try.ntmps87
  go_wp2_with fail
  go_region
  rw [← hW]
  clear hW c0 q0 q1 f0 f1 fa fb ga
  go_wp2_with fail
  go_still_tail 7, (by kernel_rfl)
  go_wp2_with (at_mapUpdate; refine Tk.wpl_upd _ rfl _ _ _ _ rfl _ _ _ rfl rfl rfl W2 HR.out ?_)
  go_end0
  exact ⟨rfl, HE.out⟩
end Go.Proofs.Ytnojjfpccnmbeaa
