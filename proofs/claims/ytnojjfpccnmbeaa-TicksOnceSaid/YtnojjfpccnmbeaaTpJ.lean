/-
  The program's queue: set, take, due.
-/
import Derived.Test.YtnojjfpccnmbeaaTpI
namespace Go.Proofs.Ytnojjfpccnmbeaa
open Go.RowKit

namespace Tk
theorem tks_setAt (l : List Tm) (i : Nat) (hi : i < l.length) (a : Int) : tks (l.set i ((l[i]).1, a)) = (tks l).set (i * 2 + 1) (.int .i64 a) := by
  rw [tks_set]
  obtain ⟨h0, _⟩ := tks_at l i hi
  congr 1
  apply List.ext_getElem?
  intro k
  rw [List.getElem?_set]
  split
  · rename_i e
    subst e
    rw [Nat.mul_comm] at h0
    rw [h0]
    split
    · rfl
    · rename_i h
      rw [tks_len] at h
      omega
  · rfl
/-- A timer's tick is written. -/
theorem QTm.setAt {Q B : Nat} {g cap : Nat} {l : List Tm} {w : World} (h : QTm Q B (.slice (some ⟨g, 0, none⟩) l.length cap) l w) {i : Nat} (hi : i < l.length) (a : Int) :
    QTm Q B (.slice (some ⟨g, 0, none⟩) l.length cap) (l.set i ((l[i]).1, a)) (w.setCell ⟨g, i * 2 + 1, none⟩ (.int .i64 a)) ∧ Mvt (QOff Q B (.slice (some ⟨g, 0, none⟩) l.length cap)) (QOff Q B (.slice (some ⟨g, 0, none⟩) l.length cap)) w (w.setCell ⟨g, i * 2 + 1, none⟩ (.int .i64 a)) := by
  obtain ⟨f, h1, hix⟩ := h.raw
  have hq : g ≠ Q := fun e => h1.neQ (by rw [← e]; rfl)
  have hb : g ≠ B := fun e => h1.neB (by rw [← e]; rfl)
  have hk : ∀ j, j ≠ g → (w.setCell ⟨g, i * 2 + 1, none⟩ (.int .i64 a)).heap[j]? = w.heap[j]? := fun j hj => Below.heap_setCell _ _ _ _ hj
  have hget : ∀ (j : Nat) (x : Tm), (l.set i ((l[i]).1, a))[j]? = some x → ∃ y : Tm, l[j]? = some y ∧ y.1 = x.1 := fun j x hx => by
    rw [List.getElem?_set] at hx
    split at hx
    · rename_i e
      subst e
      obtain rfl := Option.some.inj hx
      exact ⟨_, List.getElem?_eq_getElem hi, rfl⟩
    · exact ⟨x, hx, rfl⟩
  refine ⟨⟨⟨f, ⟨(hk _ hq.symm).trans h1.obj, ?_, ?_, h1.neQ, h1.neB, h1.QB⟩, fun k => ⟨fun j x hx e => ?_, fun hno => (hix k).2 fun y hy => ?_⟩⟩, ?_, fun x hx => ?_⟩, ⟨rfl, rfl, rfl, by simp [World.setCell], fun b _ ho => hk b (fun e => ho.2.2 (by rw [e]; rfl)), fun _ _ h => h⟩⟩
  · rw [List.length_set, tks_setAt l i hi]
    exact (h1.row.stored _ _).1
  · rw [List.length_set]
    exact h1.mp.of_block (hk _ hb.symm)
  · obtain ⟨y, hy, e2⟩ := hget j x hx
    exact (hix k).1 j y hy (e2.trans e)
  · obtain ⟨j, hj, rfl⟩ := List.getElem_of_mem hy
    by_cases e : j = i
    · subst e
      have := hno ((l[j]).1, a) (List.mem_iff_getElem?.2 ⟨j, by rw [List.getElem?_set_self hi]⟩)
      exact this
    · exact hno _ (List.mem_iff_getElem?.2 ⟨j, by rw [List.getElem?_set_ne (fun e2 => e e2.symm), List.getElem?_eq_getElem hj]⟩)
  · refine List.pairwise_iff_getElem.2 fun j k hj hk2 hlt => ?_
    obtain ⟨y, hy, e1⟩ := hget j _ (List.getElem?_eq_getElem hj)
    obtain ⟨z, hz, e2⟩ := hget k _ (List.getElem?_eq_getElem hk2)
    rw [← e1, ← e2]
    exact h.dist.ne hy hz (by omega)
  · obtain ⟨j, hj, rfl⟩ := List.getElem_of_mem hx
    obtain ⟨y, hy, e1⟩ := hget j _ (List.getElem?_eq_getElem hj)
    rw [← e1]
    exact h.keys y (List.mem_of_getElem? hy)
theorem set_perm {l : List Tm} (hd : Dist l) {i : Nat} (hi : i < l.length) (a : Int) : (l.set i ((l[i]).1, a)).Perm (drop (l[i]).1 l ++ [((l[i]).1, a)]) := by
  have h1 := erase_perm (l := l.set i ((l[i]).1, a)) (i := i) (by rw [List.length_set]; exact hi)
  rw [List.getElem_set_self] at h1
  have h2 : (l.set i ((l[i]).1, a)).eraseIdx i = l.eraseIdx i := by
    apply List.ext_getElem?
    intro k
    rw [List.getElem?_eraseIdx, List.getElem?_eraseIdx]
    split
    · rw [List.getElem?_set_ne (by omega)]
    · rw [List.getElem?_set_ne (by omega)]
  rw [h2, drop_at hd i hi rfl] at h1
  exact h1.symm.trans (List.perm_append_singleton ..).symm
end Tk

set_option maxRecDepth 20000 in
set_option maxHeartbeats 2000000 in
theorem qset {Q B : Nat} {v : Value} {l : List Tk.Tm} {w : World} (h : Tk.QTm Q B v l w) (hh : Heap.Heap Tk.lt l l.length) (hl : l.length ≤ 99990) (k : ByteArray) (hk : k.size ≤ 64) (a : Int) :
    Calls Try.prog 27 #[.pointer (some ⟨Q, 0, none⟩), .string k, .int .i64 a] w fun e w' => e = .returned (.tuple #[]) ∧ ∃ v' l', Tk.QTm Q B v' l' w' ∧ Tk.Mvt (Tk.QOff Q B v) (Tk.QOff Q B v') w w' ∧ l'.Perm (Tk.drop k l ++ [(k, a)]) ∧ Heap.Heap Tk.lt l' l'.length := by
  obtain ⟨f, h1, hix⟩ := h.raw
  have c1 := h1.c1
  have HL := Lib.hid (h1.mp.look Try.underlying3 Try.underlying56 (Tk.zero3 _) k (by unfold maxLen; omega))
  cases hhas : Tk.has k l with
  | true =>
    obtain ⟨x, hx, hxk⟩ := Tk.has_iff.1 hhas
    obtain ⟨i, hi, rfl⟩ := List.getElem_of_mem hx
    have hfi : f k = some (i : Int) := (hix k).1 i _ (List.getElem?_eq_getElem hi) hxk
    rw [hfi] at HL
    subst hxk
    obtain ⟨p, g, n, rfl, hp, hn, hpb, hpQ, hpB, q0, q1, f0, f1⟩ := h1.at2 hi
    have c0 := h1.c0
    obtain ⟨W, hW⟩ : ∃ W, W = w.setCell ⟨(p.add (i * 2)).block, (p.add (i * 2)).off + 1, none⟩ (.int .i64 a) := ⟨_, rfl⟩
    have hp0 : p.add (i * 2) = ⟨g, i * 2, none⟩ := by rw [hp, Tk.add0]
    have h2 : Tk.QTm Q B (.slice (some p) l.length n) (l.set i ((l[i]).1, a)) W ∧ Tk.Mvt (Tk.QOff Q B (.slice (some p) l.length n)) (Tk.QOff Q B (.slice (some p) l.length n)) w W := by
      rw [hW, hp0]
      simp only
      subst hp
      exact h.setAt hi a
    obtain ⟨h2, hM2⟩ := h2
    have hlen : (l.set i ((l[i]).1, a)).length = l.length := List.length_set
    have hsr : Heap.Sink Tk.lt (l.set i ((l[i]).1, a)) (l.set i ((l[i]).1, a)).length i ∨ Heap.Rise Tk.lt (l.set i ((l[i]).1, a)) (l.set i ((l[i]).1, a)).length i := by
      rw [hlen]
      exact hh.set Tk.ord hi (Nat.le_refl _) _
    have HP := Lib.hid (Tk.set_perm h.dist hi a)
    have HFX := Lib.hid (hfix h2 (by omega) i (by omega) hsr)
    have HM2 := Lib.hid hM2
    have i0 : (0 : Int) ≤ (i : Int) := by omega
    have i1 : (i : Int) < l.length := by omega
    clear h hh h1 hix hfi hsr hlen hM2 h2 hp0 hp hhas hx hk
    generalize l[i] = x at q0 q1 HL HP HFX ⊢
    obtain ⟨x1, x2⟩ := x
    simp only [] at q0 q1 HL HP HFX ⊢
    go_enter Try.func27, Try.ntmps27
    go_wp2_with (at_lookup; refine Tk.wpl_look _ rfl _ _ _ rfl _ _ _ rfl rfl HL.out ?_)
    rw [← hW]
    refine HFX.out.mono ?_
    rintro e w3 ⟨rfl, l3, hq3, hm3, hp3, hh3⟩
    have HE : Hid (∃ v' l', Tk.QTm Q B v' l' w3 ∧ Tk.Mvt (Tk.QOff Q B (.slice (some p) l.length n)) (Tk.QOff Q B v') w w3 ∧ l'.Perm (Tk.drop x1 l ++ [(x1, a)]) ∧ Heap.Heap Tk.lt l' l'.length) := ⟨_, l3, hq3, HM2.out.trans hm3, hp3.trans HP.out, hh3⟩
    clear hq3 hm3 hp3 hh3
    go_wp2_with fail
    go_returns
    exact ⟨rfl, HE.out⟩
  | false =>
    have hno : ∀ y ∈ l, y.1 ≠ k := fun y hy e => by
      have := Tk.has_iff.2 ⟨y, hy, e⟩
      rw [hhas] at this; cases this
    have hfi : f k = none := (hix k).2 hno
    rw [hfi] at HL
    have hdrop : Tk.drop k l = l := Tk.drop_none hno
    rw [hdrop]
    have HCL : Hid (∀ w, Calls Try.prog 39 #[.string k] w fun e w' => e = .returned (.string k) ∧ Below w.heap.size w w') := fun w => tclone k w (by omega)
    have HPU : Hid (∀ W, Below w.heap.size w W → Calls Try.prog 38 #[.iface 55 (.pointer (some ⟨Q, 0, none⟩)), .iface 42 (.agg #[.string k, .int .i64 a])] W fun e w' => e = .returned (.tuple #[]) ∧ Hid (∃ v' l', Tk.QTm Q B v' l' w' ∧ Tk.Mvt (Tk.QOff Q B v) (Tk.QOff Q B v') w w' ∧ l'.Perm (l ++ [(k, a)]) ∧ Heap.Heap Tk.lt l' l'.length)) := fun W hb => by
      refine (hpush (h.below hb) hh hl (k, a) hno hk).mono ?_
      rintro e w' ⟨he, v', l', a1, a2, a3, a4⟩
      exact ⟨he, v', l', a1, (Tk.Mvt.of_below hb).trans a2, a3, a4⟩
    clear h hh h1 hix hfi hdrop hno hhas hk hl
    go_enter Try.func27, Try.ntmps27
    go_wp2_with (at_lookup; refine Tk.wpl_look _ rfl _ _ _ rfl _ _ _ rfl rfl HL.out ?_)
    refine (HCL.out _).mono ?_
    rintro e w2 ⟨rfl, hb2⟩
    have HB2 := Lib.hid hb2
    clear hb2
    go_wp2_with fail
    refine (HPU.out w2 HB2.out).mono ?_
    rintro e w3 ⟨rfl, HE⟩
    go_wp2_with fail
    go_end0
    exact ⟨rfl, HE.out⟩

set_option maxRecDepth 20000 in
set_option maxHeartbeats 2000000 in
theorem qtake {Q B : Nat} {v : Value} {l : List Tk.Tm} {w : World} (h : Tk.QTm Q B v l w) (hh : Heap.Heap Tk.lt l l.length) (hl : l.length ≤ 99990) (i : Nat) (x : Tk.Tm) (hx : l[i]? = some x) :
    Calls Try.prog 30 #[.pointer (some ⟨Q, 0, none⟩), .int .i64 (i : Int)] w fun e w' => e = .returned (Tk.tmV x) ∧ Hid (∃ v' l', Tk.QTm Q B v' l' w' ∧ Tk.Mvt (Tk.QOff Q B v) (Tk.QOff Q B v') w w' ∧ l'.Perm (l.eraseIdx i) ∧ Heap.Heap Tk.lt l' l'.length) := by
  obtain ⟨hi, hxe⟩ := List.getElem?_eq_some_iff.1 hx
  obtain ⟨f, h1, hix⟩ := h.raw
  obtain ⟨p, g, n, rfl, hp, hn, hpb, hpQ, hpB, q0, q1, f0, f1⟩ := h1.at2 hi
  rw [hxe] at q0 q1
  have c0 := h1.c0
  have hQ := Tk.ltHeap h1.obj
  obtain ⟨W, hW⟩ : ∃ W, W = (w.alloc (.cells #[.string ⟨#[]⟩, .int .i64 0] 42)).alloc (.cells #[.string x.1, .int .i64 x.2] 42) := ⟨_, rfl⟩
  have hb : Below w.heap.size w W := by rw [hW]; exact ((Below.refl _ _).alloc (Nat.le_refl _) _).alloc (by simp) _
  have b1 : W.heap[w.heap.size]? = some (.cells #[.string ⟨#[]⟩, .int .i64 0] 42 (0, 0)) := by rw [hW]; exact heap_alloc2_old w _ _
  have b2 : W.heap[w.heap.size + 1]? = some (.cells #[.string x.1, .int .i64 x.2] 42 (0, 0)) := by rw [hW]; exact heap_alloc2_new w _ _
  have HRE := Lib.hid (hremove (h.below hb) hh hl i x hx)
  have HBB := Lib.hid (And.intro b1 (And.intro b2 hb))
  have HFR : Hid (∀ g, w.heap.size ≤ g → Tk.QOff Q B (.slice (some p) l.length n) g) := fun g hg => h.fresh hg
  have i0 : (0 : Int) ≤ (i : Int) := by omega
  have i1 : (i : Int) < l.length := by omega
  obtain ⟨x1, x2⟩ := x
  simp only [] at q0 q1 hW HBB
  clear h hh h1 hix hx hxe hi hp hb b1 b2
  generalize hxv : Tk.tmV (x1, x2) = xv at HRE ⊢
  have HXV := Lib.hid hxv
  clear hxv
  go_enter Try.func30, Try.ntmps30
  go_wp2_with fail
  rw [← hW]
  refine HRE.out.mono ?_
  rintro e w3 ⟨rfl, v', l', hq, hm, hp, hh⟩
  have hWs : w.heap.size + 1 < W.heap.size := by rw [hW]; simp
  have hfr : ∀ g, w.heap.size ≤ g → g < W.heap.size → Tk.QOff Q B (.slice (some p) l.length n) g := fun g hg _ => HFR.out g hg
  have b1 := (hm.block w.heap.size (by omega) (HFR.out _ (Nat.le_refl _))).trans HBB.out.1
  have b2 := (hm.block (w.heap.size + 1) (by omega) (HFR.out _ (by omega))).trans HBB.out.2.1
  have e0 := cell_of_row _ _ 0 _ _ _ b1
  have e1 := cell_of_row _ _ 1 _ _ _ b1
  have g0 := frozen_of_row _ _ 0 _ _ b1
  have g1 := frozen_of_row _ _ 1 _ _ b1
  have d0 := cell_of_row _ _ 0 _ _ _ b2
  have d1 := cell_of_row _ _ 1 _ _ _ b2
  simp only [List.getElem?_toArray, List.getElem?_cons_zero, List.getElem?_cons_succ] at e0 e1 d0 d1
  have HE : Hid (Hid (∃ v' l', Tk.QTm Q B v' l' ((w3.setCell ⟨w.heap.size, 0, none⟩ (.string x1)).setCell ⟨w.heap.size, 1, none⟩ (.int .i64 x2)) ∧ Tk.Mvt (Tk.QOff Q B (.slice (some p) l.length n)) (Tk.QOff Q B v') w ((w3.setCell ⟨w.heap.size, 0, none⟩ (.string x1)).setCell ⟨w.heap.size, 1, none⟩ (.int .i64 x2)) ∧ l'.Perm (l.eraseIdx i) ∧ Heap.Heap Tk.lt l' l'.length)) := by
    have ho : Tk.QOff Q B v' w.heap.size := hm.keep _ (by omega) (HFR.out _ (Nat.le_refl _))
    have hk : ∀ j, j ≠ w.heap.size → ((w3.setCell ⟨w.heap.size, 0, none⟩ (.string x1)).setCell ⟨w.heap.size, 1, none⟩ (.int .i64 x2)).heap[j]? = w3.heap[j]? := fun j hj => by
      rw [Below.heap_setCell _ _ _ _ hj, Below.heap_setCell _ _ _ _ hj]
    have hM : Tk.Mvt (Tk.QOff Q B (.slice (some p) l.length n)) (Tk.QOff Q B v') w w3 := (Tk.Mvt.of_below HBB.out.2.2).trans hm
    obtain ⟨f, r1, r2⟩ := hq.raw
    refine ⟨v', l', ⟨⟨f, ⟨(hk _ (fun e => ho.1 e.symm)).trans r1.obj, Tk.ownsKeep r1.row (fun j hj => hk j (fun e => ho.2.2 (by rw [← e]; exact hj.symm))), r1.mp.of_block (hk _ (fun e => ho.2.1 e.symm)), r1.neQ, r1.neB, r1.QB⟩, r2⟩, hq.dist, hq.keys⟩, ⟨hM.os, hM.tape, hM.output, Nat.le_trans hM.size (by simp [World.setCell]), fun j hj hjo => (hk j (by omega)).trans (hM.block j hj hjo), hM.keep⟩, hp, hh⟩
  clear hq hm hp hh b1 b2 hfr hW c0 q0 q1 f0 f1
  go_wp2_with fail
  have k := cells2b e0 e1 (.string x1) (.int .i64 x2)
  exact bodyPost_ret (v := .agg #[.string x1, .int .i64 x2]) (by simp [results, Try.results30, go_sem, k.1, k.2]) rfl ⟨by rw [← HXV.out]; rfl, HE.out⟩

set_option maxRecDepth 20000 in
theorem qdue {Q B : Nat} {v : Value} {l : List Tk.Tm} {w : World} (h : Tk.QTm Q B v l w) (c : Int) :
    Calls Try.prog 31 #[.pointer (some ⟨Q, 0, none⟩), .int .i64 c] w fun e w' => e = .returned (.bool (match l[0]? with | none => false | some x => decide (x.2 ≤ c))) ∧ w = w' := by
  obtain ⟨f, h1, hix⟩ := h.raw
  have c0 := h1.c0
  have HLEN : Hid (Calls Try.prog 26 #[.pointer (some ⟨Q, 0, none⟩)] w fun e w' => e = .returned (.int .i64 (l.length : Int)) ∧ w = w') := qlen h1
  cases l with
  | nil =>
    clear h hix h1
    go_enter Try.func31, Try.ntmps31
    go_wp2_with (go_at_call 26; refine HLEN.out.mono ?_; rintro e w2 ⟨rfl, rfl⟩)
    go_ret
    exact ⟨rfl, rfl⟩
  | cons x l =>
    obtain ⟨p, g, n, rfl, hp, hn, hpb, hpQ, hpB, q0, q1, f0, f1⟩ := h1.at2 (i := 0) (by simp)
    have hz : (p.add (0 * 2)) = p := by rw [hp]; rfl
    rw [hz] at q0 q1
    obtain ⟨x1, x2⟩ := x
    simp only [List.getElem_cons_zero] at q0 q1
    obtain ⟨m, hm⟩ : ∃ m, m = ((x1, x2) :: l).length := ⟨_, rfl⟩
    have hm1 : (0 : Int) < (m : Int) := by rw [hm]; simp
    have hd : decide ((0 : Int) < (m : Int)) = true := by simpa using hm1
    rw [← hm] at HLEN c0
    simp only [List.getElem?_cons_zero]
    clear h hix h1 hz hp hm
    go_enter Try.func31, Try.ntmps31
    go_wp2_with (go_at_call 26; refine HLEN.out.mono ?_; rintro e w2 ⟨rfl, rfl⟩)
    go_ret
    exact ⟨rfl, rfl⟩
end Go.Proofs.Ytnojjfpccnmbeaa
