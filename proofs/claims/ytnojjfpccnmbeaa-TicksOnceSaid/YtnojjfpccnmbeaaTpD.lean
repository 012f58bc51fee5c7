/-
  The program's queue: Swap; the queue with its keys' places.
-/
import Derived.Test.YtnojjfpccnmbeaaTpC
namespace Go.Proofs.Ytnojjfpccnmbeaa
open Go.RowKit

namespace Tk
/-- f tells each key's place. -/
def IsIx (f : ByteArray → Option Int) (l : List Tm) : Prop := ∀ k, (∀ (i : Nat) (x : Tm), l[i]? = some x → x.1 = k → f k = some (i : Int)) ∧ ((∀ x ∈ l, x.1 ≠ k) → f k = none)
/-- The queue at Q: the timers l, each key's place in the map at B. -/
structure QTm (Q B : Nat) (v : Value) (l : List Tm) (w : World) : Prop where
  raw : ∃ f, QRaw Q B v l f l.length w ∧ IsIx f l
  dist : Dist l
  keys : ∀ x ∈ l, x.1.size ≤ 64
theorem Dist.ne {l : List Tm} (h : Dist l) {i j : Nat} {x y : Tm} (hi : l[i]? = some x) (hj : l[j]? = some y) (hne : i ≠ j) : x.1 ≠ y.1 := by
  obtain ⟨hi1, hi2⟩ := List.getElem?_eq_some_iff.1 hi
  obtain ⟨hj1, hj2⟩ := List.getElem?_eq_some_iff.1 hj
  have h2 := List.pairwise_iff_getElem.1 h
  rw [← hi2, ← hj2]
  rcases Nat.lt_or_gt_of_ne hne with hlt | hlt
  · exact h2 i j hi1 hj1 hlt
  · exact (h2 j i hj1 hi1 hlt).symm
theorem Dist.perm {l m : List Tm} (h : Dist l) (hp : l.Perm m) : Dist m := (hp.pairwise_iff (fun {_ _} h => Ne.symm h)).1 h
theorem sw_eq {l : List Tm} {i j : Nat} (hi : i < l.length) (hj : j < l.length) : Heap.sw l i j = (l.set i l[j]).set j l[i] := by
  unfold Heap.sw
  rw [List.getElem?_eq_getElem hi, List.getElem?_eq_getElem hj]
theorem IsIx.swap {l : List Tm} {f : ByteArray → Option Int} (h : IsIx f l) (hd : Dist l) {i j : Nat} (hi : i < l.length) (hj : j < l.length) :
    IsIx (upd (upd f (l[j]).1 (some (i : Int))) (l[i]).1 (some (j : Int))) (Heap.sw l i j) := by
  have gi := List.getElem?_eq_getElem hi
  have gj := List.getElem?_eq_getElem hj
  refine fun k => ⟨fun t x hx hk => ?_, fun hno => ?_⟩
  · rw [Heap.sw_get hi hj] at hx
    by_cases h1 : t = j
    · subst h1
      rw [if_pos rfl, gi] at hx
      obtain rfl := Option.some.inj hx
      rw [← hk, upd_same]
    · rw [if_neg h1] at hx
      by_cases h2 : t = i
      · subst h2
        rw [if_pos rfl, gj] at hx
        obtain rfl := Option.some.inj hx
        rw [← hk, upd_other _ _ (hd.ne gj gi (fun e => h1 e.symm)), upd_same]
      · rw [if_neg h2] at hx
        rw [← hk, upd_other _ _ (hd.ne hx gi h2), upd_other _ _ (hd.ne hx gj h1)]
        exact (h x.1).1 t x hx rfl
  · have hp := Heap.sw_perm hi hj
    have hno2 : ∀ x ∈ l, x.1 ≠ k := fun x hx => hno x (hp.symm.subset hx)
    rw [upd_other _ _ (fun e => hno2 _ (List.getElem_mem hi) e.symm), upd_other _ _ (fun e => hno2 _ (List.getElem_mem hj) e.symm)]
    exact (h k).2 hno2
section
variable {Q B : Nat} {v : Value} {l : List Tm} {w w' : World}
theorem QTm.below (h : QTm Q B v l w) (hb : Below w.heap.size w w') : QTm Q B v l w' := by
  obtain ⟨f, h1, h2⟩ := h.raw
  exact ⟨⟨f, h1.below hb, h2⟩, h.dist, h.keys⟩
theorem QTm.ltQ (h : QTm Q B v l w) : Q < w.heap.size := by
  obtain ⟨f, h1, _⟩ := h.raw
  exact ltHeap h1.obj
theorem QTm.ltB (h : QTm Q B v l w) : B < w.heap.size := by
  obtain ⟨f, h1, _⟩ := h.raw
  exact h1.mp.lt
theorem QTm.c0 (h : QTm Q B v l w) : w.cell? ⟨Q, 0, none⟩ = some v := by
  obtain ⟨f, h1, _⟩ := h.raw
  exact h1.c0
theorem QTm.c1 (h : QTm Q B v l w) : w.cell? ⟨Q, 1, none⟩ = some (.map (some B)) := by
  obtain ⟨f, h1, _⟩ := h.raw
  exact h1.c1
theorem QTm.form (h : QTm Q B v l w) : ∃ A n, v = .slice A l.length n := by
  obtain ⟨f, h1, _⟩ := h.raw
  exact h1.form
theorem QTm.lies {A : Option Addr} {n : Nat} (h : QTm Q B (.slice A l.length n) l w) : Lies w w.heap.size A (tks l) := by
  obtain ⟨f, h1, _⟩ := h.raw
  exact own_lies h1.row
theorem QTm.fresh (h : QTm Q B v l w) {i : Nat} (hi : w.heap.size ≤ i) : QOff Q B v i := by
  obtain ⟨f, h1, _⟩ := h.raw
  exact QOff.fresh h1 hi
theorem QTm.own (h : QTm Q B v l w) {i : Nat} (hi : v.ownBlock = some i) : i < w.heap.size := by
  obtain ⟨f, h1, _⟩ := h.raw
  exact (h1.row.lt i hi).2
/-- Whether a key is there. -/
theorem IsIx.some_iff {f : ByteArray → Option Int} (h : IsIx f l) (k : ByteArray) : (f k).isSome = has k l := by
  rw [Bool.eq_iff_iff, has_iff]
  constructor
  · intro hs
    rcases Classical.em (∃ x ∈ l, x.1 = k) with h1 | h1
    · exact h1
    · rw [(h k).2 (fun x hx e => h1 ⟨x, hx, e⟩)] at hs; cases hs
  · rintro ⟨x, hx, hk⟩
    obtain ⟨i, hi, e⟩ := List.getElem_of_mem hx
    rw [(h k).1 i x (by rw [List.getElem?_eq_getElem hi, e]) hk]
    rfl
end
end Tk

set_option maxRecDepth 20000 in
set_option maxHeartbeats 2000000 in
theorem qswap {Q B : Nat} {v : Value} {l : List Tk.Tm} {w : World} (h : Tk.QTm Q B v l w) (hl : l.length ≤ 99999) (i j : Nat) (hi : i < l.length) (hj : j < l.length) :
    Calls Try.prog 84 #[.pointer (some ⟨Q, 0, none⟩), .int .i64 (i : Int), .int .i64 (j : Int)] w fun e w' => e = .returned (.tuple #[]) ∧ Tk.QTm Q B v (Heap.sw l i j) w' ∧ Tk.Mvt (Tk.QOff Q B v) (Tk.QOff Q B v) w w' := by
  obtain ⟨f, h1, hix⟩ := h.raw
  have hxk := h.keys _ (List.getElem_mem hi)
  have hyk := h.keys _ (List.getElem_mem hj)
  have HEND : Hid (∀ w', Tk.QRaw Q B v ((l.set i l[j]).set j l[i]) (Tk.upd (Tk.upd f (l[j]).1 (some (i : Int))) (l[i]).1 (some (j : Int))) (Tk.mput (Tk.upd f (l[j]).1 (some (i : Int))) (l[i]).1 (Tk.mput f (l[j]).1 l.length)) w' → Tk.QTm Q B v (Heap.sw l i j) w') := fun w' hr => by
    have hp := Heap.sw_perm hi hj
    have m1 : Tk.mput f (l[j]).1 l.length = l.length := by
      unfold Tk.mput
      rw [hix.some_iff, if_pos (Tk.has_iff.2 ⟨_, List.getElem_mem hj, rfl⟩)]
    have m2 : Tk.mput (Tk.upd f (l[j]).1 (some (i : Int))) (l[i]).1 l.length = l.length := by
      unfold Tk.mput
      have : (Tk.upd f (l[j]).1 (some (i : Int)) (l[i]).1).isSome = true := by
        unfold Tk.upd
        split
        · rfl
        · rw [hix.some_iff]; exact Tk.has_iff.2 ⟨_, List.getElem_mem hi, rfl⟩
      rw [if_pos this]
    rw [m1, m2, ← Tk.sw_eq hi hj] at hr
    refine ⟨⟨_, ?_, hix.swap h.dist hi hj⟩, h.dist.perm hp.symm, fun x hx => h.keys x (hp.subset hx)⟩
    rw [Heap.sw_len]
    exact hr
  obtain ⟨A, n, rfl⟩ := h1.form
  have c0 := h1.c0
  have hQ := Tk.ltHeap h1.obj
  obtain ⟨p, rfl, hpb, hi0, hi1⟩ := Tk.at2 (Tk.own_lies h1.row) hi
  obtain ⟨p', e, _, hj0, hj1⟩ := Tk.at2 (Tk.own_lies h1.row) hj
  cases e
  generalize l[i] = x at hi0 hi1 hxk HEND
  generalize l[j] = y at hj0 hj1 hyk HEND
  obtain ⟨x1, x2⟩ := x
  obtain ⟨y1, y2⟩ := y
  simp only [] at hi0 hi1 hj0 hj1 hxk hyk HEND
  have HP1 : Hid (∀ W, Below w.heap.size w W → Calls Try.prog 87 #[.pointer (some ⟨Q, 0, none⟩), .int .i64 (i : Int), .agg #[.string y1, .int .i64 y2]] W fun e w' => e = .returned (.tuple #[]) ∧
      Tk.QRaw Q B (.slice (some p) l.length n) (l.set i (y1, y2)) (Tk.upd f y1 (some (i : Int))) (Tk.mput f y1 l.length) w' ∧ Tk.Mvt (Tk.QOff Q B (.slice (some p) l.length n)) (Tk.QOff Q B (.slice (some p) l.length n)) W w') := fun W hb =>
    qput (h1.below hb) (by omega) i hi (by omega) y1 y2 (by unfold maxLen; omega)
  have HP2 : Hid (∀ W, Tk.QRaw Q B (.slice (some p) l.length n) (l.set i (y1, y2)) (Tk.upd f y1 (some (i : Int))) (Tk.mput f y1 l.length) W → Calls Try.prog 87 #[.pointer (some ⟨Q, 0, none⟩), .int .i64 (j : Int), .agg #[.string x1, .int .i64 x2]] W fun e w' => e = .returned (.tuple #[]) ∧
      Tk.QRaw Q B (.slice (some p) l.length n) ((l.set i (y1, y2)).set j (x1, x2)) (Tk.upd (Tk.upd f y1 (some (i : Int))) x1 (some (j : Int))) (Tk.mput (Tk.upd f y1 (some (i : Int))) x1 (Tk.mput f y1 l.length)) w' ∧ Tk.Mvt (Tk.QOff Q B (.slice (some p) l.length n)) (Tk.QOff Q B (.slice (some p) l.length n)) W w') := fun W hW =>
    qput hW (by unfold Tk.mput; split <;> omega) j (by rw [List.length_set]; exact hj) (by rw [List.length_set]; omega) x1 x2 (by unfold maxLen; omega)
  have HFR : Hid (∀ g, w.heap.size ≤ g → Tk.QOff Q B (.slice (some p) l.length n) g) := fun g hg => Tk.QOff.fresh h1 hg
  have i0 : (0 : Int) ≤ (i : Int) := by omega
  have i1 : (i : Int) < l.length := by omega
  have j0 : (0 : Int) ≤ (j : Int) := by omega
  have j1 : (j : Int) < l.length := by omega
  have bi : (p.add (i * 2)).block < w.heap.size := by rw [Lies.add_block]; exact hpb
  have bj : (p.add (j * 2)).block < w.heap.size := by rw [Lies.add_block]; exact hpb
  clear h hix hi hj h1 hxk hyk
  go_enter Try.func84, Try.ntmps84
  go_wp2_with fail
  go_region
  · obtain ⟨W, hW⟩ : ∃ W, W = ((w.alloc (.cells #[.string x1, .int .i64 x2] 42)).alloc (.cells #[.string y1, .int .i64 y2] 42)).drew := ⟨_, rfl⟩
    have hb1 : W.heap[w.heap.size]? = some (.cells #[.string x1, .int .i64 x2] 42 (0, 0)) := by rw [hW]; exact heap_alloc2_old w _ _
    have hb2 : W.heap[w.heap.size + 1]? = some (.cells #[.string y1, .int .i64 y2] 42 (0, 0)) := by rw [hW]; exact heap_alloc2_new w _ _
    have HB0 : Hid (Below w.heap.size w W) := by rw [hW]; exact (((Below.refl _ _).alloc (Nat.le_refl _) _).alloc (by simp) _).drew
    have hWs : w.heap.size + 1 < W.heap.size := by rw [hW]; simp
    have HX1 := Lib.hid hb1
    have HX2 := Lib.hid hb2
    rw [← hW]
    clear hW c0 hi0 hi1 hj0 hj1
    have k0 : W.cell? ⟨w.heap.size, 0, none⟩ = some (.string x1) := cell_of_row _ _ 0 _ _ _ hb1
    have k1 : W.cell? ⟨w.heap.size, 1, none⟩ = some (.int .i64 x2) := cell_of_row _ _ 1 _ _ _ hb1
    have k2 : W.cell? ⟨w.heap.size + 1, 0, none⟩ = some (.string y1) := cell_of_row _ _ 0 _ _ _ hb2
    have k3 : W.cell? ⟨w.heap.size + 1, 1, none⟩ = some (.int .i64 y2) := cell_of_row _ _ 1 _ _ _ hb2
    clear hb1 hb2
    go_wp2_with fail
    refine (HP1.out W HB0.out).mono ?_
    rintro e w2 ⟨rfl, hq2, hm2⟩
    have m0 := (hm2.block w.heap.size (by omega) (HFR.out _ (Nat.le_refl _))).trans HX1.out
    have m1 := (hm2.block (w.heap.size + 1) (by omega) (HFR.out _ (by omega))).trans HX2.out
    have l0 : w2.cell? ⟨w.heap.size, 0, none⟩ = some (.string x1) := cell_of_row _ _ 0 _ _ _ m0
    have l1 : w2.cell? ⟨w.heap.size, 1, none⟩ = some (.int .i64 x2) := cell_of_row _ _ 1 _ _ _ m0
    have l2 : w2.cell? ⟨w.heap.size + 1, 0, none⟩ = some (.string y1) := cell_of_row _ _ 0 _ _ _ m1
    have l3 : w2.cell? ⟨w.heap.size + 1, 1, none⟩ = some (.int .i64 y2) := cell_of_row _ _ 1 _ _ _ m1
    have HQ2 := Lib.hid hq2
    have HM2 : Hid (Tk.Mvt (Tk.QOff Q B (.slice (some p) l.length n)) (Tk.QOff Q B (.slice (some p) l.length n)) w w2) := (Tk.Mvt.of_below HB0.out).trans hm2
    clear m0 m1 hq2 hm2 k0 k1 k2 k3
    go_wp2_with fail
    refine (HP2.out w2 HQ2.out).mono ?_
    rintro e w3 ⟨rfl, hq3, hm3⟩
    have HE : Hid (Tk.QTm Q B (.slice (some p) l.length n) (Heap.sw l i j) w3 ∧ Tk.Mvt (Tk.QOff Q B (.slice (some p) l.length n)) (Tk.QOff Q B (.slice (some p) l.length n)) w w3) := ⟨HEND.out w3 hq3, HM2.out.trans hm3⟩
    clear hq3 hm3 l0 l1 l2 l3
    go_wp2_with fail
    go_end0
    exact ⟨rfl, HE.out⟩
  · obtain ⟨W, hW⟩ : ∃ W, W = ((w.alloc (.cells #[.string y1, .int .i64 y2] 42)).alloc (.cells #[.string x1, .int .i64 x2] 42)).drew := ⟨_, rfl⟩
    have hb1 : W.heap[w.heap.size]? = some (.cells #[.string y1, .int .i64 y2] 42 (0, 0)) := by rw [hW]; exact heap_alloc2_old w _ _
    have hb2 : W.heap[w.heap.size + 1]? = some (.cells #[.string x1, .int .i64 x2] 42 (0, 0)) := by rw [hW]; exact heap_alloc2_new w _ _
    have HB0 : Hid (Below w.heap.size w W) := by rw [hW]; exact (((Below.refl _ _).alloc (Nat.le_refl _) _).alloc (by simp) _).drew
    have hWs : w.heap.size + 1 < W.heap.size := by rw [hW]; simp
    have HX1 := Lib.hid hb1
    have HX2 := Lib.hid hb2
    rw [← hW]
    clear hW c0 hi0 hi1 hj0 hj1
    have k0 : W.cell? ⟨w.heap.size, 0, none⟩ = some (.string y1) := cell_of_row _ _ 0 _ _ _ hb1
    have k1 : W.cell? ⟨w.heap.size, 1, none⟩ = some (.int .i64 y2) := cell_of_row _ _ 1 _ _ _ hb1
    have k2 : W.cell? ⟨w.heap.size + 1, 0, none⟩ = some (.string x1) := cell_of_row _ _ 0 _ _ _ hb2
    have k3 : W.cell? ⟨w.heap.size + 1, 1, none⟩ = some (.int .i64 x2) := cell_of_row _ _ 1 _ _ _ hb2
    clear hb1 hb2
    go_wp2_with fail
    refine (HP1.out W HB0.out).mono ?_
    rintro e w2 ⟨rfl, hq2, hm2⟩
    have m0 := (hm2.block w.heap.size (by omega) (HFR.out _ (Nat.le_refl _))).trans HX1.out
    have m1 := (hm2.block (w.heap.size + 1) (by omega) (HFR.out _ (by omega))).trans HX2.out
    have l0 : w2.cell? ⟨w.heap.size, 0, none⟩ = some (.string y1) := cell_of_row _ _ 0 _ _ _ m0
    have l1 : w2.cell? ⟨w.heap.size, 1, none⟩ = some (.int .i64 y2) := cell_of_row _ _ 1 _ _ _ m0
    have l2 : w2.cell? ⟨w.heap.size + 1, 0, none⟩ = some (.string x1) := cell_of_row _ _ 0 _ _ _ m1
    have l3 : w2.cell? ⟨w.heap.size + 1, 1, none⟩ = some (.int .i64 x2) := cell_of_row _ _ 1 _ _ _ m1
    have HQ2 := Lib.hid hq2
    have HM2 : Hid (Tk.Mvt (Tk.QOff Q B (.slice (some p) l.length n)) (Tk.QOff Q B (.slice (some p) l.length n)) w w2) := (Tk.Mvt.of_below HB0.out).trans hm2
    clear m0 m1 hq2 hm2 k0 k1 k2 k3
    go_wp2_with fail
    refine (HP2.out w2 HQ2.out).mono ?_
    rintro e w3 ⟨rfl, hq3, hm3⟩
    have HE : Hid (Tk.QTm Q B (.slice (some p) l.length n) (Heap.sw l i j) w3 ∧ Tk.Mvt (Tk.QOff Q B (.slice (some p) l.length n)) (Tk.QOff Q B (.slice (some p) l.length n)) w w3) := ⟨HEND.out w3 hq3, HM2.out.trans hm3⟩
    clear hq3 hm3 l0 l1 l2 l3
    go_wp2_with fail
    go_end0
    exact ⟨rfl, HE.out⟩
end Go.Proofs.Ytnojjfpccnmbeaa
