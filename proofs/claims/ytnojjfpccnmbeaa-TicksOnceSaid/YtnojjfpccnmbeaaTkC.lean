/-
  The document's timers: Set, Stop, next, Next.
-/
import Derived.Test.YtnojjfpccnmbeaaTkB
import Derived.Deep.QuietTactic
import Derived.Deep.DeepCutAuto
namespace Go.Proofs.Ytnojjfpccnmbeaa
open Go.RowKit

namespace Tk
/-- Keys that are all others. -/
def Dist (l : List Tm) : Prop := l.Pairwise fun a b => a.1 ≠ b.1
def has (k : ByteArray) (l : List Tm) : Bool := l.any fun x => decide (x.1 = k)
def drop (k : ByteArray) (l : List Tm) : List Tm := l.filter fun x => decide (x.1 ≠ k)
theorem has_iff {k : ByteArray} {l : List Tm} : has k l = true ↔ ∃ x ∈ l, x.1 = k := by
  unfold has
  simp [List.any_eq_true]
theorem drop_none {k : ByteArray} {l : List Tm} (h : ∀ x ∈ l, x.1 ≠ k) : drop k l = l := List.filter_eq_self.2 fun x hx => by simpa using h x hx
theorem drop_at {k : ByteArray} : ∀ {l : List Tm}, Dist l → ∀ (i : Nat) (h : i < l.length), (l[i]).1 = k → l.eraseIdx i = drop k l := by
  intro l
  induction l with
  | nil => intro _ i h; simp at h
  | cons x l ih =>
    intro hd i h hk
    have hp := List.pairwise_cons.1 hd
    cases i with
    | zero =>
      have hx : x.1 = k := hk
      have e : drop k (x :: l) = drop k l := by
        unfold drop
        rw [List.filter_cons_of_neg (by simpa using hx)]
      rw [e, drop_none (fun y hy he => hp.1 y hy (hx.trans he.symm))]
      rfl
    | succ i =>
      have hi : i < l.length := by simpa using h
      have hne : x.1 ≠ k := fun e => hp.1 _ (List.getElem_mem hi) (e.trans (show k = (l[i]).1 from hk.symm))
      have e : drop k (x :: l) = x :: drop k l := by
        unfold drop
        rw [List.filter_cons_of_pos (by simpa using hne)]
      rw [e, ← ih hp.2 i hi hk]
      rfl
theorem Dist.drop {k : ByteArray} {l : List Tm} (h : Dist l) : Dist (drop k l) := h.filter _
theorem drop_mem {k : ByteArray} {l : List Tm} {x : Tm} : x ∈ drop k l ↔ x ∈ l ∧ x.1 ≠ k := by
  unfold drop
  simp
theorem Dist.set {k : ByteArray} {l : List Tm} (h : Dist l) (a : Int) : Dist (Tk.drop k l ++ [(k, a)]) := by
  refine List.pairwise_append.2 ⟨h.drop, List.pairwise_singleton .., fun x hx y hy => ?_⟩
  rw [List.mem_singleton.1 hy]
  exact (drop_mem.1 hx).2
theorem drop_len (k : ByteArray) (l : List Tm) : (drop k l).length ≤ l.length := List.length_filter_le ..
theorem drop_less {k : ByteArray} {l : List Tm} (h : has k l = true) : (drop k l).length + 1 ≤ l.length := by
  obtain ⟨x, hx, hk⟩ := has_iff.1 h
  have := (List.length_filter_lt_length_iff_exists (p := fun x : Tm => decide (x.1 ≠ k))).2 ⟨x, hx, by simpa using hk⟩
  unfold drop
  omega
def setC (c : Int) (l : List Tm) (k : ByteArray) (a : Int) : Int :=
  if 64 < k.size then 4 else if a ≤ c ∨ 17592186044416 < a then 2 else if has k l = false ∧ 1024 ≤ l.length then 6 else 0
def setL (c : Int) (l : List Tm) (k : ByteArray) (a : Int) : List Tm := if setC c l k a = 0 then drop k l ++ [(k, a)] else l
theorem Fnd.has {k : ByteArray} {l : List Tm} {r : Int} (h : Fnd k l r) : (Tk.has k l = true ↔ 0 ≤ r) ∧ -1 ≤ r ∧ r < l.length + 1 := by
  rcases h with ⟨rfl, h⟩ | ⟨i, hi, rfl, hk⟩
  · refine ⟨⟨fun hh => ?_, fun hh => by omega⟩, by omega, by omega⟩
    obtain ⟨x, hx, e⟩ := has_iff.1 hh
    exact absurd e (h x hx)
  · exact ⟨⟨fun _ => by omega, fun _ => has_iff.2 ⟨_, List.getElem_mem hi, hk⟩⟩, by omega, by omega⟩
/-- How many go. -/
def stopC (k : ByteArray) (l : List Tm) : Int := if Tk.has k l = true then 1 else 0
/-- Which place 'without' is handed, and what it leaves. -/
theorem Fnd.gone {k : ByteArray} {l : List Tm} {r : Int} (h : Fnd k l r) (hd : Dist l) : ∃ i : Nat, (r = (i : Int) ∨ (r = -1 ∧ l.length ≤ i)) ∧ l.eraseIdx i = Tk.drop k l := by
  rcases h with ⟨rfl, h⟩ | ⟨i, hi, rfl, hk⟩
  · exact ⟨l.length, .inr ⟨rfl, Nat.le_refl _⟩, by rw [List.eraseIdx_of_length_le (Nat.le_refl _), drop_none h]⟩
  · exact ⟨i, .inl rfl, drop_at hd i hi hk⟩
end Tk

set_option maxRecDepth 20000 in
set_option maxHeartbeats 1000000 in
theorem rstop {R : Nat} {v : Value} {c : Int} {l : List Tk.Tm} {w : World} (h : Tk.DTm R v c l w) (hl : l.length ≤ 100000) (hd : Tk.Dist l) (k : ByteArray) :
    Calls Try.prog 15 #[.pointer (some ⟨R, 0, none⟩), .string k] w fun e w' => e = .returned (.int .i64 (Tk.stopC k l)) ∧ ∃ v', Tk.DTm R v' c (Tk.drop k l) w' ∧ Tk.Mvt (Tk.DOff R v) (Tk.DOff R v') w w' := by
  have HF := Lib.hid (rfind h hl k)
  have H := Lib.hid h
  have HW : Hid (∀ (a : Int) (i : Nat), (a = (i : Int) ∨ (a = -1 ∧ l.length ≤ i)) → Calls Try.prog 29 #[.pointer (some ⟨R, 0, none⟩), .int .i64 a] w fun e w' => e = .returned (.tuple #[]) ∧ ∃ v', Tk.DTm R v' c (l.eraseIdx i) w' ∧ Tk.Mvt (Tk.DOff R v) (Tk.DOff R v') w w' ∧ w'.ownsRow w.heap.size 42 2 v' (l.eraseIdx i).length (Tk.tks (l.eraseIdx i))) := fun a i hi => rwithout h hl a i hi
  have HD := Lib.hid hd
  clear h hd
  go_enter Try.func15, Try.ntmps15
  go_wp2_with fail
  refine HF.out.mono ?_
  rintro e w1 ⟨⟨r, rfl, hf⟩, rfl⟩
  have hh := hf.has
  have HG := Lib.hid (hf.gone HD.out)
  by_cases hr : r < 0
  · have hd0 : decide (r < 0) = true := by simpa using hr
    have hn : Tk.has k l = false := by
      cases e : Tk.has k l with
      | false => rfl
      | true => have := hh.1.1 e; omega
    have HN : Hid (l = Tk.drop k l) := by
      rcases hf with ⟨_, h⟩ | ⟨i, hi, e, _⟩
      · exact (Tk.drop_none h).symm
      · omega
    have HN0 : Hid (Tk.stopC k l = 0) := by show _ = _; unfold Tk.stopC; rw [hn]; rfl
    clear hf hh hr HW hn
    go_wp2_with fail
    go_ret
    refine ⟨by rw [HN0.out]; rfl, v, ?_, .refl _ _⟩
    rw [← HN.out]
    exact H.out
  · have hd0 : decide (r < 0) = false := by simpa using hr
    have hn : Tk.has k l = true := hh.1.2 (by omega)
    obtain ⟨i, hi, he⟩ := HG.out
    have HW2 := Lib.hid (HW.out r i hi)
    rw [he] at HW2
    have HN1 : Hid (Tk.stopC k l = 1) := by show _ = _; unfold Tk.stopC; rw [hn]; rfl
    clear hf hh hr HW hi he hn
    go_wp2_with fail
    refine HW2.out.mono ?_
    rintro e w2 ⟨rfl, v2, hx, hx2, _⟩
    have HX : Hid (∃ v', Tk.DTm R v' c (Tk.drop k l) w2 ∧ Tk.Mvt (Tk.DOff R v) (Tk.DOff R v') w w2) := ⟨v2, hx, hx2⟩
    clear hx hx2
    go_wp2_with fail
    go_ret
    exact ⟨by rw [HN1.out]; rfl, HX.out⟩

set_option maxRecDepth 20000 in
set_option maxHeartbeats 2000000 in
theorem rset {R : Nat} {v : Value} {c : Int} {l : List Tk.Tm} {w : World} (h : Tk.DTm R v c l w) (hl : l.length ≤ 100000) (hd : Tk.Dist l) (k : ByteArray) (a : Int) :
    Calls Try.prog 13 #[.pointer (some ⟨R, 0, none⟩), .string k, .int .i64 a] w fun e w' => e = .returned (.int .i64 (Tk.setC c l k a)) ∧ ∃ v', Tk.DTm R v' c (Tk.setL c l k a) w' ∧ Tk.Mvt (Tk.DOff R v) (Tk.DOff R v') w w' := by
  by_cases hk : 64 < k.size
  · have hk2 : decide ((64 : Int) < (k.size : Int)) = true := by simp; omega
    have hc : Tk.setC c l k a = 4 := by unfold Tk.setC; rw [if_pos hk]
    have hL : Tk.setL c l k a = l := by unfold Tk.setL; rw [hc, if_neg (by omega)]
    have H := Lib.hid h
    clear hk h hd
    have HC0 := Lib.hid hc
    have HL0 := Lib.hid hL
    clear hc hL
    go_enter Try.func13, Try.ntmps13
    go_wp2_with fail
    go_ret
    exact ⟨by rw [HC0.out]; rfl, v, by rw [HL0.out]; exact H.out, .refl _ _⟩
  have hk2 : decide ((64 : Int) < (k.size : Int)) = false := by simp; omega
  by_cases ha : a ≤ c ∨ 17592186044416 < a
  · have hc : Tk.setC c l k a = 2 := by unfold Tk.setC; rw [if_neg hk, if_pos ha]
    have hL : Tk.setL c l k a = l := by unfold Tk.setL; rw [hc, if_neg (by omega)]
    have c0 := h.c0
    have H := Lib.hid h
    clear hk h hd
    have HC0 := Lib.hid hc
    have HL0 := Lib.hid hL
    clear hc hL
    by_cases h1 : a ≤ c
    · have h1d : decide (a ≤ c) = true := by simpa using h1
      clear ha
      go_enter Try.func13, Try.ntmps13
      go_wp2_with fail
      go_ret
      exact ⟨by rw [HC0.out]; rfl, v, by rw [HL0.out]; exact H.out, .refl _ _⟩
    · have h1d : decide (a ≤ c) = false := by simpa using h1
      have h2d : decide (17592186044416 < a) = true := by simp; omega
      clear ha
      go_enter Try.func13, Try.ntmps13
      go_wp2_with fail
      go_ret
      exact ⟨by rw [HC0.out]; rfl, v, by rw [HL0.out]; exact H.out, .refl _ _⟩
  have h1d : decide (a ≤ c) = false := by simp; omega
  have h2d : decide (17592186044416 < a) = false := by simp; omega
  have c0 := h.c0
  obtain ⟨A, n, rfl⟩ := h.form
  have c1 := h.c1
  have HF := Lib.hid (rfind h hl k)
  have H := Lib.hid h
  have HW : Hid (∀ (a : Int) (i : Nat), (a = (i : Int) ∨ (a = -1 ∧ l.length ≤ i)) → Calls Try.prog 29 #[.pointer (some ⟨R, 0, none⟩), .int .i64 a] w fun e w' => e = .returned (.tuple #[]) ∧ ∃ v', Tk.DTm R v' c (l.eraseIdx i) w' ∧ Tk.Mvt (Tk.DOff R (.slice A l.length n)) (Tk.DOff R v') w w' ∧ w'.ownsRow w.heap.size 42 2 v' (l.eraseIdx i).length (Tk.tks (l.eraseIdx i))) := fun a i hi => rwithout h hl a i hi
  have HD := Lib.hid hd
  have HCC : Hid (Tk.setC c l k a = if Tk.has k l = false ∧ 1024 ≤ l.length then 6 else 0) := by show _ = _; unfold Tk.setC; rw [if_neg hk, if_neg ha]
  obtain ⟨i0, hi0, hz0, hz1, hz2⟩ := info_parts Tk.tm_info
  clear h hd hk ha
  go_enter Try.func13, Try.ntmps13
  go_wp2_with fail
  refine HF.out.mono ?_
  rintro e w1 ⟨⟨r, rfl, hf⟩, rfl⟩
  have hh := hf.has
  have HG := Lib.hid (hf.gone HD.out)
  have HLL : Hid ((Tk.drop k l).length ≤ 100000) := Nat.le_trans (Tk.drop_len _ _) hl
  by_cases hfull : r < 0 ∧ 1024 ≤ l.length
  · have hd0 : decide (r < 0) = true := by simpa using hfull.1
    have hd3 : decide ((1024 : Int) ≤ (l.length : Int)) = true := by simp; omega
    have hc : Tk.setC c l k a = 6 := by
      rw [HCC.out, if_pos]
      refine ⟨?_, hfull.2⟩
      cases e : Tk.has k l with
      | false => rfl
      | true => have := hh.1.1 e; omega
    have hL : Tk.setL c l k a = l := by unfold Tk.setL; rw [hc, if_neg (by omega)]
    have HC0 := Lib.hid hc
    have HL0 := Lib.hid hL
    clear hc hL hfull hf hh HW
    go_wp2_with fail
    go_ret
    exact ⟨by rw [HC0.out]; rfl, _, by rw [HL0.out]; exact H.out, .refl _ _⟩
  · have hc : Tk.setC c l k a = 0 := by
      rw [HCC.out, if_neg]
      rintro ⟨h1, h2⟩
      refine hfull ⟨?_, h2⟩
      by_cases h : r < 0
      · exact h
      · rw [hh.1.2 (by omega)] at h1; cases h1
    have hL : Tk.setL c l k a = Tk.drop k l ++ [(k, a)] := by unfold Tk.setL; rw [hc, if_pos rfl]
    have HC0 := Lib.hid hc
    have HL0 := Lib.hid hL
    obtain ⟨i, hi, he⟩ := HG.out
    have HW2 := Lib.hid (HW.out r i hi)
    rw [he] at HW2
    have hcase : decide (r < 0) = false ∨ (decide (r < 0) = true ∧ decide ((1024 : Int) ≤ (l.length : Int)) = false) := by
      by_cases h1 : r < 0
      · exact .inr ⟨by simpa using h1, by simp; omega⟩
      · exact .inl (by simpa using h1)
    clear hc hL hfull hf hh HW hi he HCC HG
    rcases hcase with hd0 | ⟨hd0, hd3⟩
    all_goals
      go_wp2_with fail
      refine HW2.out.mono ?_
      rintro e w2 ⟨rfl, v2, hX, hM, hrow⟩
      have HX := Lib.hid hX
      have HM := Lib.hid hM
      clear hX hM c0 c1
      obtain ⟨A2, n2, rfl⟩ := HX.out.form
      have c1 := HX.out.c1
      have f1 := frozen_of_row _ _ 1 _ _ HX.out.obj
      have hll := HLL.out
      have HROW := Lib.hid hrow
      have hRw := Tk.ltHeap H.out.obj
      have hws := HM.out.size
      clear hrow
      go_wp2_with (at_builtin; refine wpList_append_own _ rfl _ _ 28 rfl w.heap.size 42 i0 (.agg #[.string ⟨#[]⟩, .int .i64 0]) 2 24 Try.underlying28 hi0 hz0 hz1 hz2 rfl (by decide) _ _ _ rfl (HROW.out.alloc _) ⟨w2.heap.size, 0, none⟩ 1 1 [.string k, .int .i64 a] rfl rfl (Tk.cellTwoTm w2 (.string k) (.int .i64 a) 42) (by simp [Value.oneCell']) (by unfold maxLen; omega) (by omega) (by first | omega | (simp; done) | (simp; omega)) ?_)
      intro v' w3 hown' hgrow _
      obtain ⟨g', cap', rfl⟩ := ownsRow_succ hown'
      have hlt2 := fun g => (HROW.out.lt g)
      have hneR : (Value.slice A2 (Tk.drop k l).length n2).ownBlock ≠ some R := HX.out.ne
      have hRl := Tk.ltHeap HX.out.obj
      have hobj : w3.heap[R]? = some (.cells #[.int .i64 c, .slice A2 (Tk.drop k l).length n2] 30 (0, 0)) := by
        rw [hgrow.block R (by simp; omega) (fun e => hneR e.symm), Below.heap_alloc _ _ _ hRl]
        exact HX.out.obj
      have hg1 := (hown'.lt g' rfl).1
      have hr3 : w3.ownsRow w.heap.size 42 2 (.slice (some ⟨g', 0, none⟩) (Tk.drop k l ++ [(k, a)]).length cap') (Tk.drop k l ++ [(k, a)]).length (Tk.tks (Tk.drop k l ++ [(k, a)])) := by
        rw [Tk.tks_snoc, List.length_append]
        exact hown'
      have HM3 : Hid (Tk.Mvt (Tk.DOff R (.slice A l.length n)) (Tk.DOff R (.slice (some ⟨g', 0, none⟩) ((Tk.drop k l).length + 1) cap')) w w3) := by
        have m1 := HM.out
        refine ⟨by rw [hgrow.os]; exact m1.os, by rw [hgrow.tape]; exact m1.tape, by rw [hgrow.output]; exact m1.output, Nat.le_trans m1.size (Nat.le_trans (by simp) hgrow.size), fun g hg ho => ?_, fun g hg ho => ⟨ho.1, fun e => by have : g = g' := (by injection e); omega⟩⟩
        have ho2 := m1.keep g hg ho
        rw [hgrow.block g (by simp; omega) ho2.2, Below.heap_alloc _ _ _ (by omega)]
        exact m1.block g hg ho
      have HR3 := Lib.hid hr3
      have HO3 := Lib.hid hobj
      have hne3 : g' ≠ R := by omega
      have c1' := cell_of_row _ _ 1 _ _ _ hobj
      have f1' := frozen_of_row _ _ 1 _ _ hobj
      simp only [List.getElem?_toArray, List.getElem?_cons_zero, List.getElem?_cons_succ] at c1'
      clear hown' hgrow hlt2 hneR hobj hr3 c1 f1 hg1
      go_wp2_with fail
      go_ret
      refine ⟨by rw [HC0.out]; rfl, .slice (some ⟨g', 0, none⟩) ((Tk.drop k l).length + 1) cap', ?_, ?_⟩
      · rw [HL0.out]
        refine ⟨by rw [heap_setCell_same _ _ _ _ _ _ HO3.out]; rfl, ?_, by intro e; injection e with e; exact hne3 e⟩
        have := Tk.ownsKeep (Tk.ownsBase HR3.out) (w' := w3.setCell ⟨R, 1, none⟩ (.slice (some ⟨g', 0, none⟩) ((Tk.drop k l).length + 1) cap')) (fun g hg => Below.heap_setCell _ _ _ _ (by intro e; have h1 : g' = g := (by injection hg); have h2 : g = R := e; omega))
        rw [List.length_append] at this ⊢
        exact this
      · have m3 := HM3.out
        refine ⟨m3.os, m3.tape, m3.output, Nat.le_trans m3.size (by simp [World.setCell]), fun g hg ho => ?_, m3.keep⟩
        rw [Below.heap_setCell _ _ _ _ (by intro e; exact ho.1 e)]
        exact m3.block g hg ho
end Go.Proofs.Ytnojjfpccnmbeaa
