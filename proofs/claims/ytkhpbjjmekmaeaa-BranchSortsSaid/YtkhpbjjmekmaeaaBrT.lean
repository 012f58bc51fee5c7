/-
  Rows of texts, written in place; slices.SortFunc of a row of texts, by compare.
-/
import Derived.Test.YtkhpbjjmekmaeaaBrV
import Derived.Test.YtkhpbjjmekmaeaaBrL
import Derived.Lib.OwnBridge
namespace Go.Proofs.Ytkhpbjjmekmaeaa
open Go.RowKit Go.Sort

namespace Br
theorem Txts.holds {B : Nat} {l : List ByteArray} {w : World} (h : Txts B l w) : Holds Value.string w B 0 l.toArray := by
  intro j hj
  have hj' : j < l.length := by simpa using hj
  have e : l.toArray[j]! = l[j] := by rw [getElem!_pos l.toArray j hj]; simp
  rw [e, Nat.zero_add]
  exact h.2 j hj'
theorem Txts.of_holds {B : Nat} {d : Array ByteArray} {w : World} (h : Holds Value.string w B 0 d) (hB : B < w.heap.size) : Txts B d.toList w := by
  refine ⟨hB, fun i hi => ?_⟩
  have hi' : i < d.size := by simpa using hi
  have := h i hi'
  rw [getElem!_pos d i hi', Nat.zero_add] at this
  simpa using this
theorem ltC (x y : ByteArray) : ltOf cmpR x y = decide (x.data.toList < y.data.toList) := by
  unfold ltOf cmpR
  rw [Bool.eq_iff_iff, decide_eq_true_iff, decide_eq_true_iff]
  exact (cmp_bytes _ _).1
theorem swoC : Sort.SWO (ltOf cmpR) where
  irrefl x := by rw [ltC]; simp
  trans x y z h1 h2 := by
    rw [ltC, decide_eq_true_iff] at *
    exact List.lt_trans h1 h2
  ntrans x y z h1 h2 := by
    rw [ltC, decide_eq_false_iff_not] at *
    intro h
    exact absurd h (List.not_lt.2 (List.le_trans (List.not_lt.1 h2) (List.not_lt.1 h1)))
theorem below_sortedC {w : World} {base g m : Nat} {d : Array ByteArray} {os : Array Obj} (hg : base ≤ g) (hb : base ≤ w.heap.size) : Below base w (sortWorld Value.string w g 0 m d os) := by
  have h1 : Below base w (putRow Value.string (Sort.ahead w m) g 0 d) := Lib.below_putRow (Below.refl base w) hg
  have h2 : (putRow Value.string (Sort.ahead w m) g 0 d).heap.size = w.heap.size := by unfold putRow mapBlock; simp [Sort.ahead]
  unfold sortWorld
  refine ⟨h1.os, h1.tape, h1.output, ?_, fun i hi => ?_⟩
  · show w.heap.size ≤ ((putRow Value.string (Sort.ahead w m) g 0 d).heap ++ os).size
    rw [Array.size_append, h2]
    omega
  · show ((putRow Value.string (Sort.ahead w m) g 0 d).heap ++ os)[i]? = _
    rw [Array.getElem?_append_left (by omega)]
    exact h1.block i hi
theorem sorted_up {l : List ByteArray} {d : Array ByteArray} (hp : Sort.PermIn 0 l.length l.toArray d) (hs : Sort.SortedIn (ltOf cmpR) 0 l.length d) : d.toList.Perm l ∧ Up d.toList := by
  obtain ⟨h1, _, h2⟩ := hp
  have hsz : d.size = l.length := by simpa using h1
  have hperm : d.toList.Perm l := by
    have e1 : d.extract 0 l.length = d := by rw [← hsz]; simp
    have e2 : l.toArray.extract 0 l.length = l.toArray := by
      have : l.length = l.toArray.size := by simp
      rw [this]; simp
    rw [e1, e2] at h2
    simpa using h2
  refine ⟨hperm, List.pairwise_iff_getElem.2 fun i j hi hj hlt => ?_⟩
  have hi2 : i < d.size := by simpa using hi
  have hj2 : j < d.size := by simpa using hj
  have h3 := hs i j (Nat.zero_le _) hlt (by omega)
  rw [getElem!_pos d j hj2, getElem!_pos d i hi2, ltC, decide_eq_false_iff_not] at h3
  simpa using h3
end Br

theorem bsort {w : World} {base n B : Nat} {l : List ByteArray} (h : Br.Txts B l w) (hB : base ≤ B) (hl : l.length ≤ 100000) :
    Calls Try.prog 31 #[.slice (some ⟨B, 0, none⟩) l.length n, .func (.func 29) #[] #[]] w fun e w' => e = .returned (.tuple #[]) ∧ ∃ out : List ByteArray, out.length = l.length ∧ out.Perm l ∧ Br.Up out ∧ Br.Txts B out w' ∧ Below base w w' := by
  have eg : ∀ args w, (callFunc 29 args).run Try.prog w = .ok (.enter 29 args) w := enters_of Try.func29 (by kernel_rfl) rfl
  have hH := h.holds
  have hlt := h.1
  have hsz : l.toArray.size < 4611686018427387904 := by simp; omega
  have hcmp : CmpLays1 Try.prog 29 #[] Value.string Br.cmpR B 0 l.toArray.size w := fun m os dk hs x y => (bcompare x y _).mono fun e w' ⟨he, hw⟩ => ⟨he, 0, #[], by rw [grow_empty]; exact hw.symm⟩
  have hcon := Any.slices_SortFunc Sh.sortTr Value.string (fun _ => rfl) Br.cmpR Br.swoC 29 #[] B 0 n l.toArray w eg hcmp hH hlt hsz
  have hcon2 : Calls Try.prog 31 #[.slice (some ⟨B, 0, none⟩) l.length n, .func (.func 29) #[] #[]] w _ := hcon
  refine hcon2.mono ?_
  rintro e w' ⟨he, d, m, os, hp, hs, rfl⟩
  obtain ⟨p1, p2⟩ := Br.sorted_up (by simpa using hp) (by simpa using hs)
  have hds : d.size = l.toArray.size := hp.1
  have hH2 := holds_sortWorld Value.string w B 0 m l.toArray d os hlt hH hds
  have hBl := Br.below_sortedC (w := w) (base := base) (g := B) (m := m) (d := d) (os := os) hB (by omega)
  refine ⟨he, d.toList, by simpa using hds, p1, p2, Br.Txts.of_holds hH2 (Nat.lt_of_lt_of_le hlt hBl.size), hBl⟩
end Go.Proofs.Ytkhpbjjmekmaeaa
