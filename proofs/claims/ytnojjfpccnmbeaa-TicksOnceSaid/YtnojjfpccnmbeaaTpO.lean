/-
  The program's timers: All.
-/
import Derived.Test.YtnojjfpccnmbeaaTpN
import Derived.Lib.OwnBridge
namespace Go.Proofs.Ytnojjfpccnmbeaa
open Go.RowKit Go.Sort

namespace Tk
def encT (x : Tm) : List Value := [.string x.1, .int .i64 x.2]
def cfT (x y : Tm) : Int := Lib.compareBytes x.1.data.toList y.1.data.toList
theorem ltT (x y : Tm) : ltOf cfT x y = decide (x.1.data.toList < y.1.data.toList) := by
  unfold ltOf cfT
  rw [Bool.eq_iff_iff, decide_eq_true_iff, decide_eq_true_iff]
  exact (cmp_bytes _ _).1
theorem swoT : Sort.SWO (ltOf cfT) where
  irrefl x := by rw [ltT]; simp
  trans x y z h1 h2 := by
    rw [ltT, decide_eq_true_iff] at *
    exact List.lt_trans h1 h2
  ntrans x y z h1 h2 := by
    rw [ltT, decide_eq_false_iff_not] at *
    intro h
    exact absurd h (List.not_lt.2 (List.le_trans (List.not_lt.1 h2) (List.not_lt.1 h1)))
theorem flat_get (l : List Tm) (i : Nat) (hi : i < l.length) : (encT (l.toArray[i]!))[0]! = .string (l[i]).1 ∧ (encT (l.toArray[i]!))[1]! = .int .i64 (l[i]).2 := by
  have : l.toArray[i]! = l[i] := by rw [getElem!_pos l.toArray i (by simpa using hi)]; simp
  rw [this]
  exact ⟨rfl, rfl⟩
/-- A row of the call's own holds, in the sort's words. -/
theorem holds_tm {w : World} {base g n : Nat} {l : List Tm} (h : w.ownsRow base 42 2 (.slice (some ⟨g, 0, none⟩) l.length n) l.length (tks l)) : HoldsK encT 2 w g 0 l.toArray := by
  intro t ht
  have ht2 : t < l.length * 2 := by simpa using ht
  have hk : t / 2 < l.length := by omega
  refine ⟨?_, by rw [Nat.zero_add]; exact h.frozenAt t⟩
  rw [get_flatK _ _ _ _ (by simpa using ht2), Nat.zero_add]
  have e1 := h.cellAt t ht2
  rw [e1]
  obtain ⟨a0, a1⟩ := tks_at l (t / 2) hk
  obtain ⟨b0, b1⟩ := flat_get l (t / 2) hk
  rcases (by omega : t % 2 = 0 ∨ t % 2 = 1) with h2 | h2
  · rw [h2]
    have : t = 2 * (t / 2) := by omega
    rw [show (tks l)[t]? = (tks l)[2 * (t / 2)]? by rw [← this], a0]
    exact congrArg some b0.symm
  · rw [h2]
    have : t = 2 * (t / 2) + 1 := by omega
    rw [show (tks l)[t]? = (tks l)[2 * (t / 2) + 1]? by rw [← this], a1]
    exact congrArg some b1.symm
theorem lies_tm {w : World} {g B : Nat} {l : List Tm} (h : HoldsK encT 2 w g 0 l.toArray) (hB : g < B) : Lies w B (some ⟨g, 0, none⟩) (tks l) := fun _ => ⟨_, rfl, hB, fun j u hu => by
  have hj := (List.getElem?_eq_some_iff.1 hu).1
  rw [tks_len] at hj
  have hk : j / 2 < l.length := by omega
  have e := (h j (by simpa using hj)).1
  rw [get_flatK _ _ _ _ (by simpa using hj), Nat.zero_add] at e
  rw [add0, e, ← hu]
  obtain ⟨a0, a1⟩ := tks_at l (j / 2) hk
  obtain ⟨b0, b1⟩ := flat_get l (j / 2) hk
  rcases (by omega : j % 2 = 0 ∨ j % 2 = 1) with h2 | h2
  · rw [h2]
    have : j = 2 * (j / 2) := by omega
    rw [show (tks l)[j]? = (tks l)[2 * (j / 2)]? by rw [← this], a0]
    exact congrArg some b0
  · rw [h2]
    have : j = 2 * (j / 2) + 1 := by omega
    rw [show (tks l)[j]? = (tks l)[2 * (j / 2) + 1]? by rw [← this], a1]
    exact congrArg some b1⟩
theorem below_sorted {w : World} {base g m : Nat} {d : Array Tm} {os : Array Obj} (hg : base ≤ g) (hb : base ≤ w.heap.size) : Below base w (sortWorldK encT 2 w g 0 m d os) := by
  have h1 : Below base w (putRowK encT 2 (Sort.ahead w m) g 0 d) := Lib.below_putRow (Below.refl base w) hg
  have h2 : (putRowK encT 2 (Sort.ahead w m) g 0 d).heap.size = w.heap.size := by unfold putRowK; simp
  unfold sortWorldK
  refine ⟨h1.os, h1.tape, h1.output, ?_, fun i hi => ?_⟩
  · show w.heap.size ≤ ((putRowK encT 2 (Sort.ahead w m) g 0 d).heap ++ os).size
    rw [Array.size_append, h2]
    omega
  · show ((putRowK encT 2 (Sort.ahead w m) g 0 d).heap ++ os)[i]? = _
    rw [Array.getElem?_append_left (by omega)]
    exact h1.block i hi
/-- Sorted by keys that are all others: rising. -/
theorem sorted_rise {l : List Tm} {d : Array Tm} (hp : Sort.PermIn 0 l.length l.toArray d) (hs : Sort.SortedIn (ltOf cfT) 0 l.length d) (hd : Dist l) : d.toList.Perm l ∧ d.toList.Pairwise kl := by
  obtain ⟨h1, _, h2⟩ := hp
  have hsz : d.size = l.length := by simpa using h1
  have hperm : d.toList.Perm l := by
    have e1 : d.extract 0 l.length = d := by rw [← hsz]; simp
    have e2 : l.toArray.extract 0 l.length = l.toArray := by
      have : l.length = l.toArray.size := by simp
      rw [this]; simp
    rw [e1, e2] at h2
    simpa using h2
  have hd2 : Dist d.toList := hd.perm hperm.symm
  refine ⟨hperm, List.pairwise_iff_getElem.2 fun i j hi hj hlt => ?_⟩
  have hi2 : i < d.size := by simpa using hi
  have hj2 : j < d.size := by simpa using hj
  have h3 := hs i j (Nat.zero_le _) hlt (by omega)
  rw [getElem!_pos d j hj2, getElem!_pos d i hi2, ltT, decide_eq_false_iff_not] at h3
  have h4 := List.pairwise_iff_getElem.1 hd2 i j hi hj hlt
  simp only [Array.getElem_toList] at h4 ⊢
  exact kl_not h3 h4.symm
end Tk

set_option maxHeartbeats 1000000 in
theorem tkcmp (x y : Tk.Tm) (W : World) : Calls Try.prog 35 #[.agg #[.string x.1, .int .i64 x.2], .agg #[.string y.1, .int .i64 y.2]] W fun e w' => e = .returned (.int .i64 (Tk.cfT x y)) ∧ ∃ q os', w' = Sort.grow (W.drewN q) os' := by
  obtain ⟨x1, x2⟩ := x
  obtain ⟨y1, y2⟩ := y
  have hcon := fun W' => tscmp x1 y1 W'
  unfold Tk.cfT
  simp only []
  generalize Lib.compareBytes x1.data.toList y1.data.toList = r at hcon ⊢
  go_enter Try.func35, Try.ntmps35
  go_wp2_with (go_at_call 36; refine (hcon _).mono ?_; rintro e w' ⟨rfl, rfl⟩)
  go_ret
  exact ⟨rfl, 0, _, by rw [Sort.alloc_eq_grow, Sort.alloc_eq_grow, Sort.grow_grow]; rfl⟩

/-- slices.SortFunc of a row of the call's own. -/
theorem tksort {w : World} {base n : Nat} {A : Option Addr} {l : List Tk.Tm} (h : w.ownsRow base 42 2 (.slice A l.length n) l.length (Tk.tks l)) (hl : l.length ≤ 100000) (hd : Tk.Dist l) (hbase : base ≤ w.heap.size) :
    Calls Try.prog 34 #[.slice A l.length n, .func (.func 35) #[] #[]] w fun e w' => e = .returned (.tuple #[]) ∧ ∃ out : List Tk.Tm, out.length = l.length ∧ out.Perm l ∧ out.Pairwise Tk.kl ∧ Lies w' w'.heap.size A (Tk.tks out) ∧ Below base w w' := by
  rcases h.2 with ⟨e, h0⟩ | ⟨g, cap, cur, e1, hg, hh, _⟩
  · injection e with e1 e2 e3
    have hnil : l = [] := List.length_eq_zero_iff.1 h0
    subst hnil
    subst e1
    refine (AnyF.slices_SortFunc_none Sh.sortTm none n (.func (.func 35) #[] #[]) w).mono ?_
    rintro e w' ⟨he, rfl⟩
    exact ⟨he, [], rfl, List.Perm.refl _, List.Pairwise.nil, fun h => by simp [Tk.tks] at h, Below.refl _ _⟩
  · obtain rfl : A = some ⟨g, 0, none⟩ := by injection e1
    have eg : ∀ args w, (callFunc 35 args).run Try.prog w = .ok (.enter 35 args) w := enters_of Try.func35 (by kernel_rfl) rfl
    have hH := Tk.holds_tm h
    have hlt := (h.lt g rfl).2
    have hsz : l.toArray.size < 4611686018427387904 := by simp; omega
    have hcon := AnyQ.slices_SortFunc Sh.sortTm 2 Try.isAgg42 Try.sizeOf42 Tk.encT (fun _ => rfl) (fun x v hv => by simp [Tk.encT] at hv; rcases hv with rfl | rfl <;> rfl) Tk.cfT Tk.swoT 35 #[] g 0 n l.toArray w eg (fun _ _ _ _ x y => tkcmp x y _) hH hlt hsz
    have hcon2 : Calls Try.prog 34 #[.slice (some ⟨g, 0, none⟩) l.length n, .func (.func 35) #[] #[]] w _ := hcon
    refine hcon2.mono ?_
    rintro e w' ⟨he, d, m, os, hp, hs, rfl⟩
    obtain ⟨p1, p2⟩ := Tk.sorted_rise (by simpa using hp) (by simpa using hs) hd
    have hds : d.size = l.toArray.size := hp.1
    have hH2 := holdsK_sortWorldK_c Tk.encT 2 w g 0 l.toArray d m os hH hlt hds
    have hB := Tk.below_sorted (w := w) (base := base) (g := g) (m := m) (d := d) (os := os) hg hbase
    refine ⟨he, d.toList, by simpa using hds, p1, p2, Tk.lies_tm (by simpa using hH2) (Nat.lt_of_lt_of_le hlt hB.size), hB⟩
end Go.Proofs.Ytnojjfpccnmbeaa
