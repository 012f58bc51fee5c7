/-
  An op at a block; the contract of code.bare (an op without its parts).
-/
import Derived.Test.YtndgafjnifkghaaCdC
import Derived.Laws.Tables
import Derived.Laws.Rows
namespace Go.Proofs.Ytndgafjnifkghaa
open Go.RowKit

namespace Cd
def OpV.arr (o : OpV) : Array Value := #[.int .u8 (o.k : Int), .int .i64 o.d, .int .i64 o.a, .int .i64 o.b, .int .i64 o.n]
theorem OpV.arr_one (o : OpV) : o.arr.all (·.oneCell') = true := by unfold OpV.arr; simp [Value.oneCell']
/-- Block B holds an op. -/
def OB (w : World) (B : Nat) (o : OpV) : Prop := w.heap[B]? = some (.cells o.arr 43 (0, 0))
section
variable {w w' : World} {B : Nat} {o : OpV}
theorem OB.lt (h : OB w B o) : B < w.heap.size := ltH h
theorem OB.c0 (h : OB w B o) : w.cell? ⟨B, 0, none⟩ = some (.int .u8 (o.k : Int)) := cell_of_row _ _ 0 _ _ _ h
theorem OB.c1 (h : OB w B o) : w.cell? ⟨B, 1, none⟩ = some (.int .i64 o.d) := cell_of_row _ _ 1 _ _ _ h
theorem OB.c2 (h : OB w B o) : w.cell? ⟨B, 2, none⟩ = some (.int .i64 o.a) := cell_of_row _ _ 2 _ _ _ h
theorem OB.c3 (h : OB w B o) : w.cell? ⟨B, 3, none⟩ = some (.int .i64 o.b) := cell_of_row _ _ 3 _ _ _ h
theorem OB.c4 (h : OB w B o) : w.cell? ⟨B, 4, none⟩ = some (.int .i64 o.n) := cell_of_row _ _ 4 _ _ _ h
theorem OB.f (h : OB w B o) (i : Nat) : w.frozen? ⟨B, i, none⟩ = false := Lib.frozen_of_heap h i
theorem OB.cI (h : OB w B o) {i : Nat} (hi : i = 1 ∨ i = 2 ∨ i = 3) : w.cell? ⟨B, i, none⟩ = some (.int .i64 (o.getI i)) := by
  rcases hi with rfl | rfl | rfl
  · exact h.c1
  · exact h.c2
  · exact h.c3
theorem OB.set (h : OB w B o) {i : Nat} (hi : i = 1 ∨ i = 2 ∨ i = 3) (x : Int) : OB (w.setCell ⟨B, i, none⟩ (.int .i64 x)) B (o.setI i x) := by
  unfold OB at h ⊢
  rcases hi with rfl | rfl | rfl <;> simp [World.setCell, Array.getElem?_modify, h, OpV.setI, OpV.arr]
theorem OB.set4 (h : OB w B o) (x : Int) : OB (w.setCell ⟨B, 4, none⟩ (.int .i64 x)) B ⟨o.k, o.d, o.a, o.b, x⟩ := by
  unfold OB at h ⊢
  simp [World.setCell, Array.getElem?_modify, h, OpV.arr]
theorem OB.of_block (h : OB w B o) (hb : w'.heap[B]? = w.heap[B]?) : OB w' B o := hb.trans h
theorem OB.below (h : OB w B o) (hb : Below w.heap.size w w') : OB w' B o := h.of_block (hb.block _ h.lt)
theorem OB.drew (h : OB w B o) : OB w.drew B o := h
end
theorem opSize : (Try.prog.info? 43).map (·.size) = some 5 := by kernel_rfl

/-- Some registers of an op, laid to zero. -/
def OpV.zap (o : OpV) (l : List Nat) : OpV := l.foldl (fun o i => o.setI i 0) o
theorem zap_snoc (o : OpV) (l : List Nat) (i : Nat) : o.zap (l ++ [i]) = (o.zap l).setI i 0 := by unfold OpV.zap; rw [List.foldl_append]; rfl
theorem zap_less (d a b : Bool) (o : OpV) : o.zap (ids d a b) = o.less d a b false := by cases d <;> cases a <;> cases b <;> rfl
theorem setCell_below {B lo i : Nat} {a w : World} {v : Value} (h : Below lo a w) (hl : lo ≤ w.heap.size) (hB : lo ≤ B) : Below lo a (w.setCell ⟨B, i, none⟩ v) := h.grown (Wire.grown_set w B i v) hl (fun k hk => by cases hk; exact hB)
theorem row_below {lo B : Nat} {a w : World} (h : Below lo a w) (hB : lo ≤ B) (cs : Array Value) : Below lo a (w.setRow B cs) := h.trans ⟨rfl, rfl, rfl, by simp, fun k hk => setRow_other w B k cs (by omega)⟩
end Cd

set_option maxHeartbeats 400000 in
set_option maxRecDepth 20000 in
theorem cbare (d a b n : Bool) (o : Cd.OpV) (w : World) :
    Calls Try.prog 86 #[.int .u8 (Cd.pb d a b n : Int), .agg #[.int .u8 (o.k : Int), .int .i64 o.d, .int .i64 o.a, .int .i64 o.b, .int .i64 o.n]] w fun e w' => e = .returned (.agg (o.less d a b n).arr) ∧ Below w.heap.size w w' := by
  obtain ⟨W, hW⟩ : ∃ W, W = (w.alloc (.cells #[.int .u8 (o.k : Int), .int .i64 o.d, .int .i64 o.a, .int .i64 o.b, .int .i64 o.n] 43)).alloc (.cells #[.int .u8 0, .int .i64 0, .int .i64 0, .int .i64 0, .int .i64 0] 43) := ⟨_, rfl⟩
  have hsz : (w.alloc (.cells #[.int .u8 (o.k : Int), .int .i64 o.d, .int .i64 o.a, .int .i64 o.b, .int .i64 o.n] 43)).heap.size = w.heap.size + 1 := by simp
  have HW : Hid (Cd.OB W w.heap.size o ∧ W.heap[w.heap.size + 1]? = some (.cells #[.int .u8 0, .int .i64 0, .int .i64 0, .int .i64 0, .int .i64 0] 43 (0, 0)) ∧ Below w.heap.size w W) := by
    refine ⟨?_, ?_, ?_⟩
    · show W.heap[w.heap.size]? = _
      rw [hW, Below.heap_alloc _ _ _ (by rw [hsz]; omega)]
      exact heap_alloc_new w _
    · rw [hW, ← hsz]
      exact heap_alloc_new _ _
    · rw [hW]
      exact ((Below.refl _ _).alloc (Nat.le_refl _) _).alloc (by rw [hsz]; omega) _
  obtain ⟨B, hB⟩ : ∃ B, B = w.heap.size := ⟨_, rfl⟩
  have HZ : Hid (B = w.heap.size) := hB
  have HI := Lib.hid Cd.opSize
  rw [← hB] at HW
  clear hsz
  go_enter Try.func86, Try.ntmps86
  go_wp2_with fail
  rw [← hW, ← hB]
  clear hW hB
  refine (cregs d a b n B W).mono ?_
  rintro e w2 ⟨v, rfl, hs⟩
  obtain ⟨A, c, rfl⟩ := Cd.rowForm hs.row
  have HS := Lib.hid hs
  have HC : Hid (Cd.OB w2 B (o.zap []) ∧ w2.heap[B + 1]? = some (.cells #[.int .u8 0, .int .i64 0, .int .i64 0, .int .i64 0, .int .i64 0] 43 (0, 0)) ∧ Below B w w2) :=
    ⟨HW.out.1.below hs.bel, (hs.bel.block _ (Cd.ltH HW.out.2.1)).trans HW.out.2.1, HW.out.2.2.trans (hs.bel.mono (Nat.le_of_lt HW.out.1.lt))⟩
  have HIM : Hid (∀ i, i ∈ Cd.ids d a b → i = 1 ∨ i = 2 ∨ i = 3) := fun i h => Cd.ids_mem h
  have HZL := Lib.hid (Cd.zap_less d a b o)
  have HBW := Lib.hid HW.out.1.lt
  have HBW2 := Lib.hid (Cd.ltH HW.out.2.1)
  clear HW hs
  have hIl : (Cd.ids d a b).length ≤ 100 := by cases d <;> cases a <;> cases b <;> decide
  generalize Cd.ids d a b = I at HS HIM HZL hIl ⊢
  go_wp2_with fail
  go_loopw [10] (fun s10 wr => ∃ k : Nat, k ≤ I.length ∧ s10 = .int .i64 k ∧ Hid (Cd.OB wr B (o.zap (I.take k)) ∧ wr.heap[B + 1]? = some (.cells #[.int .u8 0, .int .i64 0, .int .i64 0, .int .i64 0, .int .i64 0] 43 (0, 0)) ∧ Below B w wr) ∧ Hid (wr.ownsRow W.heap.size 112 1 (.slice A I.length c) I.length (Cd.ptrs B I))) (fun s10 _ => I.length - (intOf s10).toNat)
  case atStart => exact ⟨0, Nat.zero_le _, rfl, HC.out, HS.out.row⟩
  case round =>
    clear HC HS
    obtain ⟨k, hk, rfl, HC, HR⟩ := hrel
    by_cases hlt : k < I.length
    · obtain ⟨ad, rfl, hadb, hc⟩ := (Cd.rowLies HR.out).at_ (Cd.ptrs_at hlt)
      have hi := HIM.out _ (List.getElem_mem hlt)
      have HTK : Hid (o.zap (I.take (k + 1)) = (o.zap (I.take k)).setI I[k] 0) := by
        show _ = _
        rw [List.take_succ_eq_append_getElem hlt, Cd.zap_snoc]
      generalize I[k] = i at hc hi HTK
      have hci := HC.out.1.cI hi
      have hfi := HC.out.1.f i
      have HNEW : Hid (Cd.OB (wr.setCell ⟨B, i, none⟩ (.int .i64 0)) B (o.zap (I.take (k + 1))) ∧ (wr.setCell ⟨B, i, none⟩ (.int .i64 0)).heap[B + 1]? = some (.cells #[.int .u8 0, .int .i64 0, .int .i64 0, .int .i64 0, .int .i64 0] 43 (0, 0)) ∧ Below B w (wr.setCell ⟨B, i, none⟩ (.int .i64 0))) := by
        refine ⟨?_, ?_, Cd.setCell_below HC.out.2.2 (Nat.le_of_lt HC.out.1.lt) (Nat.le_refl _)⟩
        · rw [HTK.out]; exact HC.out.1.set hi 0
        · exact (Below.heap_setCell _ _ _ _ (by intro h; simp at h)).trans HC.out.2.1
      have HRN : Hid ((wr.setCell ⟨B, i, none⟩ (.int .i64 0)).ownsRow W.heap.size 112 1 (.slice (some ad) I.length c) I.length (Cd.ptrs B I)) :=
        Cd.rowKeep HR.out (fun j hj => Below.heap_setCell _ _ _ _ (by intro h; have h1 := (HR.out.lt j hj).1; have h2 := HBW.out; try dsimp only at h; omega))
      have k0 : (0 : Int) ≤ (k : Int) := by omega
      have k1 : (k : Int) < I.length := by omega
      clear hadb hlt HTK hi HC HR
      go_wp2_with fail
      go_roundw
      case rel => exact ⟨k + 1, by omega, by go_num, HNEW.out, HRN.out⟩
      case measure => simp [intOf]; omega
    · have k1 : ¬ ((k : Int) < I.length) := by omega
      have HO : Hid (Cd.OB wr B (o.less d a b false)) := by
        show Cd.OB _ _ _
        have := HC.out.1
        rw [List.take_of_length_le (by omega)] at this
        rw [← HZL.out]
        exact this
      have HB1 := Lib.hid HC.out.2
      clear HC HR
      go_wp2_with fail
      refine (chasN d a b n _).mono ?_
      rintro e w3 ⟨rfl, rfl⟩
      cases n
      · go_wp2_with (first
          | refine wpList_load_row rfl 43 (.tmp 3) rfl B rfl 43 (o.less d a b false).arr (0, 0) _ HO.out Try.underlying43 rfl HI.out ?_
          | refine wpList_store_row rfl 43 (.tmp 4) (.tmp 20) rfl (B + 1) (o.less d a b false).arr rfl rfl 43 _ HB1.out.1 HI.out rfl (Cd.OpV.arr_one _) ?_)
        try simp only [Exit.inBlock, Exit.then]
        refine bodyPost_ret (v := .agg (o.less d a b false).arr) (results_cell_row Try.results86 _ _ (B + 1) 43 (o.less d a b false).arr (0, 0) _ rfl (setRow_heap _ _ _ _ _ _ HB1.out.1) Try.underlying43 rfl HI.out) rfl ⟨rfl, ?_⟩
        rw [← HZ.out]
        exact Cd.row_below HB1.out.2 (Nat.le_succ _) _
      · have c4 := HO.out.c4
        have f4 := HO.out.f 4
        have HO4 : Hid (Cd.OB (wr.setCell ⟨B, 4, none⟩ (.int .i64 0)) B (o.less d a b true)) := HO.out.set4 0
        have HB4 : Hid ((wr.setCell ⟨B, 4, none⟩ (.int .i64 0)).heap[B + 1]? = some (.cells #[.int .u8 0, .int .i64 0, .int .i64 0, .int .i64 0, .int .i64 0] 43 (0, 0)) ∧ Below B w (wr.setCell ⟨B, 4, none⟩ (.int .i64 0))) :=
          ⟨(Below.heap_setCell _ _ _ _ (by intro h; simp at h)).trans HB1.out.1, Cd.setCell_below HB1.out.2 (Nat.le_of_lt HO.out.lt) (Nat.le_refl _)⟩
        go_wp2_with (first
          | refine wpList_load_row rfl 43 (.tmp 3) rfl B rfl 43 (o.less d a b true).arr (0, 0) _ HO4.out Try.underlying43 rfl HI.out ?_
          | refine wpList_store_row rfl 43 (.tmp 4) (.tmp 20) rfl (B + 1) (o.less d a b true).arr rfl rfl 43 _ HB4.out.1 HI.out rfl (Cd.OpV.arr_one _) ?_)
        try simp only [Exit.inBlock, Exit.then]
        refine bodyPost_ret (v := .agg (o.less d a b true).arr) (results_cell_row Try.results86 _ _ (B + 1) 43 (o.less d a b true).arr (0, 0) _ rfl (setRow_heap _ _ _ _ _ _ HB4.out.1) Try.underlying43 rfl HI.out) rfl ⟨rfl, ?_⟩
        rw [← HZ.out]
        exact Cd.row_below HB4.out.2 (Nat.le_succ _) _
end Go.Proofs.Ytndgafjnifkghaa
