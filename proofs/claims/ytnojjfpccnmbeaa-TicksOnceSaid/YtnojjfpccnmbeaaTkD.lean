/-
  The document's timers: next, Next.
-/
import Derived.Test.YtnojjfpccnmbeaaTkC
namespace Go.Proofs.Ytnojjfpccnmbeaa
open Go.RowKit

namespace Tk
/-- The place of the one that is due first. -/
def Nxt (l : List Tm) (r : Int) : Prop := (r = -1 ∧ l = []) ∨ ∃ (i : Nat) (h : i < l.length), r = (i : Int) ∧ First l l[i]
def Best (l : List Tm) (j : Nat) (b : Int) : Prop := (b = -1 ∧ j = 0) ∨ ∃ (m : Nat) (h : m < l.length), b = (m : Int) ∧ m < j ∧ ∀ x ∈ l.take j, lt x l[m] = false
theorem Best.done {l : List Tm} {j : Nat} {b : Int} (h : Best l j b) (hj : l.length ≤ j) : Nxt l b := by
  rcases h with ⟨h1, h2⟩ | ⟨m, hm, h1, h2, h3⟩
  · exact .inl ⟨h1, List.length_eq_zero_iff.1 (by omega)⟩
  · rw [List.take_of_length_le hj] at h3
    exact .inr ⟨m, hm, h1, List.getElem_mem hm, h3⟩
theorem lt_self (x : Tm) : lt x x = false := by
  cases e : lt x x with
  | false => rfl
  | true => rw [ord.asym x x e] at e; cases e
theorem Best.first {l : List Tm} (h : 0 < l.length) : Best l 1 ((0 : Nat) : Int) := .inr ⟨0, h, rfl, by omega, fun x hx => by
  rw [List.take_succ_eq_append_getElem h] at hx
  simp at hx
  rw [hx]
  exact lt_self _⟩
theorem Best.yes {l : List Tm} {j m : Nat} (hj : j < l.length) (hm : m < l.length) (h : ∀ x ∈ l.take j, lt x l[m] = false) (hlt : lt l[j] l[m] = true) : Best l (j + 1) (j : Int) := .inr ⟨j, hj, rfl, by omega, fun x hx => by
  rw [List.take_succ_eq_append_getElem hj] at hx
  rcases List.mem_append.1 hx with hx | hx
  · exact ord.trans _ _ _ (ord.asym _ _ hlt) (h x hx)
  · rw [List.mem_singleton.1 hx]; exact lt_self _⟩
theorem Best.no {l : List Tm} {j m : Nat} (hj : j < l.length) (hm : m < l.length) (hmj : m < j) (h : ∀ x ∈ l.take j, lt x l[m] = false) (hlt : lt l[j] l[m] = false) : Best l (j + 1) (m : Int) := .inr ⟨m, hm, rfl, by omega, fun x hx => by
  rw [List.take_succ_eq_append_getElem hj] at hx
  rcases List.mem_append.1 hx with hx | hx
  · exact h x hx
  · rw [List.mem_singleton.1 hx]; exact hlt⟩
/-- Two cells written. -/
theorem _root_.Go.Proofs.Ytnojjfpccnmbeaa.cells2b {w1 : World} {B : Nat} {a b : Value} (h0 : w1.cell? ⟨B, 0, none⟩ = some a) (h1 : w1.cell? ⟨B, 1, none⟩ = some b) (x y : Value) :
    (w1.setCell ⟨B, 0, none⟩ x).cell? ⟨B, 0, none⟩ = some x ∧ ((w1.setCell ⟨B, 0, none⟩ x).setCell ⟨B, 1, none⟩ y).cell? ⟨B, 1, none⟩ = some y := by
  have h1' : (w1.setCell ⟨B, 0, none⟩ x).cell? ⟨B, 1, none⟩ = some b := by
    rw [World.cell?_setCell_other _ _ _ _ (by intro hh; injection hh with _ h2 _; omega)]; exact h1
  exact ⟨World.cell?_setCell_same _ _ _ h0, World.cell?_setCell_same _ _ _ h1'⟩
/-- The comparison of two keys as the walk has it. -/
theorem less_eq (x y : ByteArray) : Op.bytesLess x.toList y.toList = decide (x.data.toList < y.data.toList) := by
  rw [bytesLess_eq, Lib.toList_data, Lib.toList_data]
end Tk

set_option maxRecDepth 20000 in
set_option maxHeartbeats 4000000 in
theorem rnext {R : Nat} {v : Value} {c : Int} {l : List Tk.Tm} {w : World} (h : Tk.DTm R v c l w) (hl : l.length ≤ 100000) :
    Calls Try.prog 32 #[.pointer (some ⟨R, 0, none⟩)] w fun e w' => (∃ r, e = .returned (.int .i64 r) ∧ Tk.Nxt l r) ∧ Below w.heap.size w w' := by
  obtain ⟨A, n, rfl⟩ := h.form
  have HC : Hid (∀ wx, Below w.heap.size w wx → wx.cell? ⟨R, 1, none⟩ = some (.slice A l.length n)) := fun wx hb => (h.below hb).c1
  have HLI := Lib.hid (Tk.own_lies h.row)
  clear h
  go_enter Try.func32, Try.ntmps32
  go_wp2_with fail
  go_loopw [3, 4] (fun bb i wr => ∃ (j : Nat) (b : Int), bb = .int .i64 b ∧ i = .int .i64 j ∧ j ≤ l.length ∧ Hid (Tk.Best l j b) ∧ Hid (Below w.heap.size w wr)) (fun _ i _ => l.length - (intOf i).toNat)
  case atStart => exact ⟨0, -1, rfl, rfl, Nat.zero_le _, .inl ⟨rfl, rfl⟩, Below.refl _ _⟩
  case round =>
    obtain ⟨j, b, rfl, rfl, hj, HBST, HB⟩ := hrel
    have c1 := HC.out _ HB.out
    by_cases hlt : j < l.length
    · have k0 : (0 : Int) ≤ (j : Int) := by omega
      have k1 : (j : Int) < l.length := by omega
      rcases HBST.out with ⟨rfl, h2⟩ | ⟨m, hm, rfl, hmj, hall⟩
      · have HB1 : Hid (Tk.Best l (j + 1) (j : Int)) := by subst h2; exact Tk.Best.first hlt
        clear HBST h2
        go_wp2_with fail
        go_quiet (fail)
        go_wp2_with fail
        go_roundw
        case rel => exact ⟨j + 1, (j : Int), rfl, by go_num, by omega, HB1.out, below_drewN HB.out _⟩
        case measure => simp [intOf]; omega
      · have HYES : Hid (Tk.lt l[j] l[m] = true → Tk.Best l (j + 1) (j : Int)) := fun e => Tk.Best.yes hlt hm hall e
        have HNO : Hid (Tk.lt l[j] l[m] = false → Tk.Best l (j + 1) (m : Int)) := fun e => Tk.Best.no hlt hm hmj hall e
        obtain ⟨p, rfl, hpb, hp0, hp1⟩ := Tk.at2 (HLI.out.below HB.out) hlt
        obtain ⟨p', hpe, _, hq0, hq1⟩ := Tk.at2 (HLI.out.below HB.out) hm
        obtain rfl := Option.some.inj hpe
        generalize l[j] = x at hp0 hp1 HYES HNO
        generalize l[m] = y at hq0 hq1 HYES HNO
        obtain ⟨x1, x2⟩ := x
        obtain ⟨y1, y2⟩ := y
        simp only [] at hp0 hp1 hq0 hq1
        have m0 : (0 : Int) ≤ (m : Int) := by omega
        have m1 : (m : Int) < l.length := by omega
        have mn : decide ((m : Int) < 0) = false := by simp
        have hless := Tk.less_eq x1 y1
        clear HBST hall hpe
        by_cases e1 : x2 < y2
        · have HB1 := Lib.hid (HYES.out ((Tk.lt_iff _ _).2 (.inl e1)))
          have d1 : decide (x2 < y2) = true := by simpa using e1
          clear HYES HNO hless e1
          go_wp2_with fail
          go_quiet (fail)
          go_wp2_with fail
          go_roundw
          case rel => exact ⟨j + 1, (j : Int), rfl, by go_num, by omega, HB1.out, below_drewN HB.out _⟩
          case measure => simp [intOf]; omega
        · have d1 : decide (x2 < y2) = false := by simpa using e1
          by_cases e2 : x2 = y2
          · subst e2
            have d2 : (x2 == x2) = true := by simp
            by_cases e3 : x1.data.toList < y1.data.toList
            · have HB1 := Lib.hid (HYES.out ((Tk.lt_iff _ _).2 (.inr ⟨rfl, e3⟩)))
              have d3 : Op.bytesLess x1.toList y1.toList = true := by rw [hless]; simpa using e3
              clear HYES HNO hless e1 e3
              go_wp2_with fail
              go_quiet (fail)
              go_wp2_with fail
              go_roundw
              case rel => exact ⟨j + 1, (j : Int), rfl, by go_num, by omega, HB1.out, below_drewN HB.out _⟩
              case measure => simp [intOf]; omega
            · have HB1 := Lib.hid (HNO.out ((Tk.lt_not _ _).2 (.inr ⟨rfl, e3⟩)))
              have d3 : Op.bytesLess x1.toList y1.toList = false := by rw [hless]; simpa using e3
              clear HYES HNO hless e1 e3
              go_wp2_with fail
              go_quiet (fail)
              go_wp2_with fail
              go_roundw
              case rel => exact ⟨j + 1, (m : Int), rfl, by go_num, by omega, HB1.out, below_drewN HB.out _⟩
              case measure => simp [intOf]; omega
          · have HB1 := Lib.hid (HNO.out ((Tk.lt_not _ _).2 (.inl (by show y2 < x2; omega))))
            have d2 : (x2 == y2) = false := by rw [beq_eq_false_iff_ne]; exact e2
            clear HYES HNO hless e1 e2
            go_wp2_with fail
            go_quiet (fail)
            go_wp2_with fail
            go_roundw
            case rel => exact ⟨j + 1, (m : Int), rfl, by go_num, by omega, HB1.out, below_drewN HB.out _⟩
            case measure => simp [intOf]; omega
    · have k1 : ¬ ((j : Int) < l.length) := by omega
      have HN := Lib.hid (HBST.out.done (by omega))
      go_wp2_with fail
      go_ret
      exact ⟨⟨_, rfl, HN.out⟩, HB.out⟩

/-- What Next tells. -/
def Tk.nval : Option Tk.Tm → Value
  | none => .tuple #[.agg #[.string ⟨#[]⟩, .int .i64 0], .bool false]
  | some x => .tuple #[.agg #[.string x.1, .int .i64 x.2], .bool true]
def Tk.Told (l : List Tk.Tm) : Option Tk.Tm → Prop
  | none => l = []
  | some x => Tk.First l x
theorem Tk.Told.one {l m : List Tk.Tm} (hp : l.Perm m) {x y : Option Tk.Tm} (hx : Tk.Told l x) (hy : Tk.Told m y) : x = y := by
  cases x with
  | none =>
    cases y with
    | none => rfl
    | some y =>
      have : l = [] := hx
      subst this
      have h2 := hp.symm.subset (show y ∈ m from hy.1)
      simp at h2
  | some x =>
    cases y with
    | none =>
      have : m = [] := hy
      subst this
      have h2 := hp.subset (show x ∈ l from hx.1)
      simp at h2
    | some y => rw [Tk.First.one hp hx hy]
set_option maxRecDepth 20000 in
set_option maxHeartbeats 1000000 in
theorem rNext {R : Nat} {v : Value} {c : Int} {l : List Tk.Tm} {w : World} (h : Tk.DTm R v c l w) (hl : l.length ≤ 100000) :
    Calls Try.prog 20 #[.pointer (some ⟨R, 0, none⟩)] w fun e w' => (∃ o, e = .returned (Tk.nval o) ∧ Tk.Told l o) ∧ Below w.heap.size w w' := by
  have hb0 : Below w.heap.size w (w.alloc (.cells #[.string ⟨#[]⟩, .int .i64 0] 42)) := (Below.refl _ _).alloc (Nat.le_refl _) _
  have HNX := Lib.hid (rnext (h.below hb0) hl)
  obtain ⟨A, n, rfl⟩ := h.form
  have HC : Hid (∀ wx, Below w.heap.size w wx → wx.cell? ⟨R, 1, none⟩ = some (.slice A l.length n)) := fun wx hb => (h.below hb).c1
  have HLI := Lib.hid (Tk.own_lies h.row)
  have HB0 := Lib.hid hb0
  clear h hb0
  go_enter Try.func20, Try.ntmps20
  go_wp2_with fail
  refine HNX.out.mono ?_
  rintro e w1 ⟨⟨r, rfl, hr⟩, hb1⟩
  have hrw : w1.heap[w.heap.size]? = some (.cells #[.string ⟨#[]⟩, .int .i64 0] 42 (0, 0)) := (hb1.block _ (by simp)).trans (heap_alloc_new w _)
  have e0 := cell_of_row _ _ 0 _ _ _ hrw
  have e1 := cell_of_row _ _ 1 _ _ _ hrw
  have f0 := frozen_of_row _ _ 0 _ _ hrw
  have f1 := frozen_of_row _ _ 1 _ _ hrw
  simp only [List.getElem?_toArray, List.getElem?_cons_zero, List.getElem?_cons_succ] at e0 e1
  have HB1 : Hid (Below w.heap.size w w1) := HB0.out.trans (hb1.mono HB0.out.size)
  have c1 := HC.out _ HB1.out
  clear hrw hb1 HNX
  rcases hr with ⟨rfl, hl0⟩ | ⟨i, hi, rfl, hf⟩
  · have HL0 := Lib.hid hl0
    clear hl0
    go_wp2_with fail
    have k := cells2b e0 e1 (.string ⟨#[]⟩) (.int .i64 0)
    exact bodyPost_ret (v := Tk.nval none) (by simp [results, Try.results20, go_sem, k.1, k.2, Tk.nval]) rfl ⟨⟨none, rfl, HL0.out⟩, (HB1.out.setCell (by simp) _).setCell (by simp) _⟩
  · have k0 : (0 : Int) ≤ (i : Int) := by omega
    have k1 : (i : Int) < l.length := by omega
    have kn : decide ((i : Int) < 0) = false := by simp
    obtain ⟨p, rfl, hpb, hp0, hp1⟩ := Tk.at2 (HLI.out.below HB1.out) hi
    have HF := Lib.hid hf
    clear hf
    generalize l[i] = x at hp0 hp1 HF
    obtain ⟨x1, x2⟩ := x
    simp only [] at hp0 hp1
    go_wp2_with fail
    have k := cells2b e0 e1 (.string x1) (.int .i64 x2)
    exact bodyPost_ret (v := Tk.nval (some (x1, x2))) (by simp [results, Try.results20, go_sem, k.1, k.2, Tk.nval]) rfl ⟨⟨some (x1, x2), rfl, HF.out⟩, (HB1.out.setCell (by simp) _).setCell (by simp) _⟩
end Go.Proofs.Ytnojjfpccnmbeaa
