/-
  The program's queue: Push and Pop, as the heap calls them.
-/
import Derived.Test.YtnojjfpccnmbeaaTpF
import Derived.Test.YtnojjfpccnmbeaaTkG
import Derived.Deep.AppendLies
namespace Go.Proofs.Ytnojjfpccnmbeaa
open Go.RowKit

namespace Tk
/-- A timer as a value. -/
def tmV (x : Tm) : Value := .agg #[.string x.1, .int .i64 x.2]
theorem dist_ne_last {l : List Tm} (h : Dist l) {i : Nat} {x y : Tm} (hi : l[i]? = some x) (hl : l[l.length - 1]? = some y) (hlt : i < l.length - 1) : x.1 ≠ y.1 := h.ne hi hl (by omega)
theorem IsIx.pop {l : List Tm} {f : ByteArray → Option Int} (h : IsIx f l) (hd : Dist l) (hne : 0 < l.length) {x : Tm} (hx : l[l.length - 1]? = some x) : IsIx (upd f x.1 none) l.dropLast := by
  refine fun k => ⟨fun i y hy hk => ?_, fun hno => ?_⟩
  · rw [List.getElem?_dropLast] at hy
    split at hy
    · rename_i hi
      rw [upd_other _ _ (by rw [← hk]; exact dist_ne_last hd hy hx hi)]
      exact (h k).1 i y hy hk
    · cases hy
  · by_cases e : k = x.1
    · rw [e, upd_same]
    · rw [upd_other _ _ e]
      refine (h k).2 fun y hy => ?_
      obtain ⟨i, hi, rfl⟩ := List.getElem_of_mem hy
      by_cases hi2 : i = l.length - 1
      · subst hi2
        rw [List.getElem?_eq_getElem hi] at hx
        rw [Option.some.inj hx]
        exact fun e2 => e e2.symm
      · refine hno _ ?_
        rw [List.mem_iff_getElem?]
        exact ⟨i, by rw [List.getElem?_dropLast, if_pos (by omega), List.getElem?_eq_getElem hi]⟩
theorem IsIx.push {l : List Tm} {f : ByteArray → Option Int} (h : IsIx f l) {x : Tm} (hno : ∀ y ∈ l, y.1 ≠ x.1) : IsIx (upd f x.1 (some (l.length : Int))) (l ++ [x]) := by
  refine fun k => ⟨fun i y hy hk => ?_, fun hn => ?_⟩
  · rw [List.getElem?_append] at hy
    split at hy
    · rw [upd_other _ _ (by rw [← hk]; exact hno y (List.mem_of_getElem? hy))]
      exact (h k).1 i y hy hk
    · rename_i hi
      have hi2 : i - l.length = 0 := by
        rcases Nat.eq_zero_or_pos (i - l.length) with h0 | h0
        · exact h0
        · rw [List.getElem?_eq_none (by simp only [List.length_singleton]; omega)] at hy; cases hy
      rw [hi2] at hy
      obtain rfl := Option.some.inj hy
      rw [← hk, upd_same, show i = l.length by omega]
  · have hkx : k ≠ x.1 := fun e => hn x (by simp) e.symm
    rw [upd_other _ _ hkx]
    exact (h k).2 fun y hy => hn y (by simp [hy])
theorem row_cut {w : World} {g cap : Nat} {l : List Tm} (hne : 0 < l.length) (h : w.ownsRow 0 42 2 (.slice (some ⟨g, 0, none⟩) l.length cap) l.length (tks l)) :
    w.ownsRow 0 42 2 (.slice (some ⟨g, 0, none⟩) (l.length - 1) cap) (l.length - 1) (tks l.dropLast) := by
  obtain ⟨hl, h0 | ⟨g', cap', cur, e, hg, hh, hn, hc, hs, ht⟩⟩ := h
  · obtain ⟨e, _⟩ := h0; cases e
  · injection e with e1 e2 e3
    injection e1 with e1
    injection e1 with e1
    subst e1
    subst e3
    refine ⟨by rw [tks_len, List.length_dropLast], .inr ⟨g, cap, cur, rfl, hg, hh, by omega, hc, hs, ?_⟩⟩
    rw [List.dropLast_eq_take, tks_take, ← ht, List.take_take]
    congr 1
    omega
theorem drop_set_last {l : List Tm} (x : Tm) : (l.set (l.length - 1) x).dropLast = l.dropLast := by
  apply List.ext_getElem?
  intro k
  rw [List.getElem?_dropLast, List.getElem?_dropLast, List.length_set]
  split
  · rw [List.getElem?_set_ne (by omega)]
  · rfl
end Tk

set_option maxRecDepth 20000 in
set_option maxHeartbeats 4000000 in
theorem qpop {Q B : Nat} {v : Value} {l : List Tk.Tm} {w : World} (h : Tk.QTm Q B v l w) (hl : l.length ≤ 99999) (hne : 0 < l.length) (x : Tk.Tm) (hx : l[l.length - 1]? = some x) :
    Calls Try.prog 82 #[.pointer (some ⟨Q, 0, none⟩)] w fun e w' => e = .returned (.iface 42 (Tk.tmV x)) ∧ ∃ v', Tk.QTm Q B v' l.dropLast w' ∧ Tk.Mvt (Tk.QOff Q B v) (Tk.QOff Q B v') w w' := by
  obtain ⟨f, h1, hix⟩ := h.raw
  obtain ⟨hlt, hxe⟩ := List.getElem?_eq_some_iff.1 hx
  obtain ⟨p, g, n, rfl, hp, hn, hpb, hpQ, hpB, q0, q1, f0, f1⟩ := h1.at2 hlt
  rw [hxe] at q0 q1
  obtain ⟨m, hm⟩ : ∃ m, m = l.length - 1 := ⟨_, rfl⟩
  have hxk := h.keys x (List.mem_of_getElem? hx)
  have c0 := h1.c0
  have hQ := Tk.ltHeap h1.obj
  have fq := frozen_of_row _ _ 0 _ _ h1.obj
  have HLEN : Hid (∀ W, Below w.heap.size w W → Calls Try.prog 26 #[.pointer (some ⟨Q, 0, none⟩)] W fun e w' => e = .returned (.int .i64 (l.length : Int)) ∧ W = w') := fun W hb => qlen (h1.below hb)
  obtain ⟨x1, x2⟩ := x
  simp only [] at q0 q1 hxk
  have hb0 : Below w.heap.size w (w.alloc (.cells #[.string x1, .int .i64 x2] 42)) := (Below.refl _ _).alloc (Nat.le_refl _) _
  have h2 := h1.below hb0
  have fa : (w.alloc (.cells #[.string x1, .int .i64 x2] 42)).frozen? (p.add (m * 2)) = false := by rw [hm]; exact (World.frozen?_of_block (hb0.block _ hpb)).trans f0
  have fb : (w.alloc (.cells #[.string x1, .int .i64 x2] 42)).frozen? ⟨(p.add (m * 2)).block, (p.add (m * 2)).off + 1, none⟩ = false := by rw [hm]; exact (World.frozen?_of_block (a := ⟨(p.add ((l.length - 1) * 2)).block, (p.add ((l.length - 1) * 2)).off + 1, none⟩) (hb0.block _ hpb)).trans f1
  have ga : ((w.alloc (.cells #[.string x1, .int .i64 x2] 42)).setCell (p.add (m * 2)) (.string ⟨#[]⟩)).cell? ⟨(p.add (m * 2)).block, (p.add (m * 2)).off + 1, none⟩ = some (.int .i64 x2) := by
    rw [hm, World.cell?_setCell_other (h := show (p.add ((l.length - 1) * 2)) ≠ ⟨(p.add ((l.length - 1) * 2)).block, (p.add ((l.length - 1) * 2)).off + 1, none⟩ from fun e => by have := congrArg Addr.off e; simp at this), World.cell?_of_block (a := ⟨(p.add ((l.length - 1) * 2)).block, (p.add ((l.length - 1) * 2)).off + 1, none⟩) (hb0.block _ hpb)]
    exact q1
  rw [← hm] at q0 q1 hpb hpQ hpB
  -- the world behind the zero, and behind the row's new end
  have hp0 : p.add (m * 2) = ⟨g, m * 2, none⟩ := by rw [hp, Tk.add0]
  obtain ⟨W, hW⟩ : ∃ W, W = (((w.alloc (.cells #[.string x1, .int .i64 x2] 42)).setCell (p.add (m * 2)) (.string ⟨#[]⟩)).setCell ⟨(p.add (m * 2)).block, (p.add (m * 2)).off + 1, none⟩ (.int .i64 0)) := ⟨_, rfl⟩
  have h3 : Tk.QRaw Q B (.slice (some p) l.length n) (l.set m (⟨#[]⟩, 0)) f l.length W ∧ Tk.Mvt (Tk.QOff Q B (.slice (some p) l.length n)) (Tk.QOff Q B (.slice (some p) l.length n)) w W ∧ W.heap[w.heap.size]? = some (.cells #[.string x1, .int .i64 x2] 42 (0, 0)) := by
    rw [hW, hp0]
    simp only
    subst hp
    refine ⟨h2.set m _ _, (Tk.Mvt.of_below hb0).trans (Tk.moved_set rfl _ _ _ _), ?_⟩
    have hgl : w.heap.size ≠ g := by have := (h1.row.lt g rfl).2; omega
    rw [Below.heap_setCell _ _ _ _ hgl, Below.heap_setCell _ _ _ _ hgl]
    exact heap_alloc_new w _
  obtain ⟨h3, hM3, hb3⟩ := h3
  have gq : W.cell? ⟨Q, 0, none⟩ = some (.slice (some p) l.length n) := h3.c0
  have gf : W.frozen? ⟨Q, 0, none⟩ = false := frozen_of_row _ _ 0 _ _ h3.obj
  have hsl := fun w => Tk.tslice_front (some p) l.length n m (by omega) w
  obtain ⟨W4, hW4⟩ : ∃ W4, W4 = W.setCell ⟨Q, 0, none⟩ (.slice (some p) m n) := ⟨_, rfl⟩
  have h4 : Tk.QRaw Q B (.slice (some p) m n) l.dropLast f l.length W4 ∧ Tk.Mvt (Tk.QOff Q B (.slice (some p) l.length n)) (Tk.QOff Q B (.slice (some p) m n)) w W4 ∧ W4.heap[w.heap.size]? = some (.cells #[.string x1, .int .i64 x2] 42 (0, 0)) := by
    have hk : ∀ j, j ≠ Q → W4.heap[j]? = W.heap[j]? := fun j hj => by rw [hW4]; exact Below.heap_setCell _ _ _ _ hj
    have hr := h3.row
    rw [List.length_set] at hr
    have hr2 : W.ownsRow 0 42 2 (.slice (some p) m n) m (Tk.tks l.dropLast) := by
      rw [hp] at hr ⊢
      have h5 := Tk.row_cut (l := l.set m (⟨#[]⟩, 0)) (by rw [List.length_set]; exact hne) (by rw [List.length_set]; exact hr)
      rw [List.length_set, hm, Tk.drop_set_last] at h5
      rw [hm]
      exact h5
    refine ⟨⟨?_, ?_, h3.mp.of_block (hk B (fun e => h3.QB e.symm)), h3.neQ, h3.neB, h3.QB⟩, hM3.trans ⟨?_, ?_, ?_, ?_, ?_, fun _ _ h => h⟩, (hk _ (by omega)).trans hb3⟩
    · rw [hW4, heap_setCell_same _ _ _ _ _ _ h3.obj]; rfl
    · rw [List.length_dropLast, ← hm]
      exact Tk.ownsKeep hr2 (fun j hj => hk j (fun e => h3.neQ (by rw [← e]; exact hj)))
    · rw [hW4]; rfl
    · rw [hW4]; rfl
    · rw [hW4]; rfl
    · rw [hW4]; simp [World.setCell]
    · intro j _ ho
      exact hk j ho.1
  obtain ⟨h4, hM4, hb4⟩ := h4
  have d1 := h4.c1
  have k0 : W4.cell? ⟨w.heap.size, 0, none⟩ = some (.string x1) := cell_of_row _ _ 0 _ _ _ hb4
  obtain ⟨W5, hr5, hmp5, hg5⟩ := (h4.below (below_drewN (Below.refl _ _) 1)).mp.del Try.underlying56 x1 (by unfold maxLen; omega) 0
  have HR5 := Lib.hid hr5
  have hlast : (if (f x1).isSome then l.length - 1 else l.length) = l.dropLast.length := by
    rw [hix.some_iff, if_pos (Tk.has_iff.2 ⟨_, List.mem_of_getElem? hx, rfl⟩), List.length_dropLast]
  have HE : Hid (∃ v', Tk.QTm Q B v' l.dropLast W5 ∧ Tk.Mvt (Tk.QOff Q B (.slice (some p) l.length n)) (Tk.QOff Q B v') w W5) := by
    have h5 := h4.below (below_drewN (Below.refl _ _) 1)
    refine ⟨.slice (some p) m n, ⟨⟨_, ⟨?_, ?_, by rw [← hlast]; exact hmp5, h5.neQ, h5.neB, h5.QB⟩, hix.pop h.dist hne hx⟩, ?_, fun y hy => h.keys y (List.dropLast_subset _ hy)⟩, (hM4.trans (.of_below (below_drewN (Below.refl _ _) 1))).trans (Tk.moved_map hg5)⟩
    · rw [hg5.block _ (Tk.ltHeap h5.obj) (fun e => h5.QB (Option.some.inj e))]
      exact h5.obj
    · exact Tk.ownsKeep h5.row (fun j hj => hg5.block j (h5.row.lt j hj).2 (fun e => h5.neB (by rw [hj, e])))
    · exact h.dist.sublist (List.dropLast_sublist _)
  have e5 : W5.heap[w.heap.size]? = some (.cells #[.string x1, .int .i64 x2] 42 (0, 0)) := by
    rw [hg5.block w.heap.size (Tk.ltHeap hb4) (fun e => by have := h1.mp.lt; have := Option.some.inj e; omega)]
    exact hb4
  have k5 : W5.cell? ⟨w.heap.size, 0, none⟩ = some (.string x1) := cell_of_row _ _ 0 _ _ _ e5
  have k6 : W5.cell? ⟨w.heap.size, 1, none⟩ = some (.int .i64 x2) := cell_of_row _ _ 1 _ _ _ e5
  have i0 : (0 : Int) ≤ (m : Int) := by omega
  have i1 : (m : Int) < l.length := by omega
  have him : (l.length : Int) - 1 = (m : Int) := by omega
  have hQ2 : Q ≠ (p.add (m * 2)).block := fun e => hpQ e.symm
  have HB0 := Lib.hid (Below.refl w.heap.size w)
  rw [hW] at gq gf
  rw [hW] at hW4
  have HX := Lib.hid hx
  clear hr5 hmp5 hg5 h4 hM4 hb4 h3 hM3 hb3 h2 h1 hix h hp0 hp hW hb0 hx hxe hlast e5 hlt hne hm hn
  go_enter Try.func82, Try.ntmps82
  go_wp2_with (go_at_call 26; refine (HLEN.out w HB0.out).mono ?_; rintro e w' ⟨rfl, rfl⟩)
  rw [← hW4]
  clear hW4 gq gf fa fb ga q0 q1 f0 f1 c0 fq hsl
  go_wp2_with fail
  go_still_tail 7, (by kernel_rfl)
  go_wp2_with (at_delete; refine Tk.wpl_del _ rfl _ _ _ _ rfl _ _ rfl rfl W5 HR5.out ?_)
  refine bodyPost_ret (results_tmp rfl _ _ _) rfl ?_
  exact ⟨rfl, HE.out⟩
end Go.Proofs.Ytnojjfpccnmbeaa
